package tests

import (
	"math"
	"testing"

	"loop.example/g00701/impl"
)

// leastOf is a document whose nodes have the Ids 1, 2 and so on.
func leastOf(nodes ...impl.Node) impl.Doc {
	for i := range nodes {
		nodes[i].Id = i + 1
	}
	return impl.Doc{Root: 1, Next: len(nodes) + 1, Nodes: nodes}
}

func nodeOf(kind int, kids ...int) impl.Node {
	return impl.Node{Kind: kind, Kids: kids}
}

func TestP6LeastDoc(t *testing.T) {
	for i, v := range []struct {
		lines []string
		kind  int
		want  impl.Doc
		code  int
	}{
		{demoLines(), 1, leastOf(nodeOf(1)), impl.OK}, {demoLines(), 2, leastOf(nodeOf(2, 2), nodeOf(3)), impl.OK}, {demoLines(), 3, leastOf(nodeOf(3)), impl.OK},
		{demoLines(), 4, leastOf(nodeOf(4, 2), nodeOf(5)), impl.OK}, {demoLines(), 5, leastOf(nodeOf(5)), impl.OK}, {demoLines(), 6, impl.Doc{}, impl.ErrKind}, {demoLines(), 0, impl.Doc{}, impl.ErrKind},
		// Each has the next Id, and gets its own Kids ahead of the next one.
		{[]string{"a: b c b", "b: c", "c: text"}, 1, leastOf(nodeOf(1, 2, 4, 5), nodeOf(2, 3), nodeOf(3), nodeOf(3), nodeOf(2, 6), nodeOf(3)), impl.OK},
		{[]string{"a: text", "b: a a", "c: b a b", "d: c"}, 4, leastOf(nodeOf(4, 2), nodeOf(3, 3, 6, 7), nodeOf(2, 4, 5), nodeOf(1), nodeOf(1), nodeOf(1), nodeOf(2, 8, 9), nodeOf(1), nodeOf(1)), impl.OK},
		// The lowest kind of a term, though another one would take fewer nodes.
		{[]string{"a: b|c+", "b: c c", "c:"}, 1, leastOf(nodeOf(1, 2), nodeOf(2, 3, 4), nodeOf(3), nodeOf(3)), impl.OK},
		// Terms that may be empty, and no Terms.
		{[]string{"a: a?"}, 1, leastOf(nodeOf(1)), impl.OK}, {[]string{"a: a* b? a?", "b: b"}, 1, leastOf(nodeOf(1)), impl.OK}, {[]string{"a:"}, 1, leastOf(nodeOf(1)), impl.OK}, {[]string{"a: text"}, 1, leastOf(nodeOf(1)), impl.OK},
		{[]string{"a: b? c b* c+", "b: b", "c:"}, 1, leastOf(nodeOf(1, 2, 3), nodeOf(3), nodeOf(3)), impl.OK},
		// Kinds that ask for themselves, at once or in a circle; also where another kind would have an end.
		{[]string{"a: a"}, 1, impl.Doc{}, impl.ErrDeep}, {[]string{"a: a+"}, 1, impl.Doc{}, impl.ErrDeep}, {[]string{"a: a a a a"}, 1, impl.Doc{}, impl.ErrDeep}, {[]string{"a: b", "b: a"}, 1, impl.Doc{}, impl.ErrDeep}, {[]string{"a: b", "b: a"}, 2, impl.Doc{}, impl.ErrDeep},
		{[]string{"a: b", "b: c", "c: d", "d: b"}, 1, impl.Doc{}, impl.ErrDeep}, {[]string{"a: a|b", "b:"}, 1, impl.Doc{}, impl.ErrDeep}, {[]string{"a: b a", "b:"}, 1, impl.Doc{}, impl.ErrDeep}, {[]string{"a: b a", "b:"}, 2, leastOf(nodeOf(2)), impl.OK},
		{[]string{"a: b+ c", "b: c|d+", "c:", "d: a"}, 4, leastOf(nodeOf(4, 2), nodeOf(1, 3, 5), nodeOf(2, 4), nodeOf(3), nodeOf(3)), impl.OK},
		// Six levels, and seven.
		{deepLines(), 3, leastOf(nodeOf(3, 2), nodeOf(4, 3), nodeOf(5, 4), nodeOf(6, 5), nodeOf(7, 6), nodeOf(8)), impl.OK}, {deepLines(), 2, impl.Doc{}, impl.ErrDeep}, {deepLines(), 1, impl.Doc{}, impl.ErrDeep}, {deepLines(), 8, leastOf(nodeOf(8)), impl.OK},
		{[]string{"a: h b", "b: h c", "c: h d", "d: h e", "e: h h", "h:"}, 1, leastOf(nodeOf(1, 2, 3), nodeOf(6), nodeOf(2, 4, 5), nodeOf(6), nodeOf(3, 6, 7), nodeOf(6), nodeOf(4, 8, 9), nodeOf(6), nodeOf(5, 10, 11), nodeOf(6), nodeOf(6)), impl.OK},
		{[]string{"a: h b", "b: h c", "c: h d", "d: h e", "e: h f", "f: h", "h:"}, 1, impl.Doc{}, impl.ErrDeep},
		// More nodes than there may be on few levels, and on too many.
		{[]string{"a: b b b b", "b: c c c c", "c: d d d d", "d:"}, 1, impl.Doc{}, impl.ErrDeep}, {[]string{"a: a a a a", "b: a"}, 2, impl.Doc{}, impl.ErrDeep},
	} {
		list := rulesOf(t, v.lines...)
		if d, code := leastByTheRule(list, v.kind); !alike(d, v.want) || code != v.code {
			t.Fatalf("%d: by the rule it is %v, %d", i, d, code)
		}
		if d, code := impl.LeastDoc(list, v.kind); !alike(d, v.want) || code != v.code {
			t.Errorf("%d: LeastDoc(%q, %d) = %v, %d; want %v, %d", i, v.lines, v.kind, d, code, v.want, v.code)
		}
	}
}

// TestP6LeastDocOfAsManyNodesAsThereMayBe: 40 nodes, and 41.
func TestP6LeastDocOfAsManyNodesAsThereMayBe(t *testing.T) {
	list := rulesOf(t, fullLines()...)
	d, code := impl.LeastDoc(list, 1)
	if want, _ := leastByTheRule(list, 1); code != impl.OK || len(d.Nodes) != 40 || d.Next != 41 || !alike(d, want) {
		t.Errorf("LeastDoc of 40 nodes = %v, %d", d, code)
	}
	if d, code := impl.LeastDoc(list, 2); code != impl.ErrDeep || !alike(d, impl.Doc{}) {
		t.Errorf("LeastDoc of 41 nodes = %v, %d", d, code)
	}
}

func TestP6LeastDocIsTaken(t *testing.T) {
	schemas := append(rightSchemas(), impl.DemoSchema(), rulesOf(t, fullLines()...), rulesOf(t, deepLines()...))
	throw := &dice{73}
	for range 8000 {
		schemas = append(schemas, thrownRules(throw))
	}
	seen := map[int]int{}
	large := 0
	for _, list := range schemas {
		for kind := 1; kind <= len(list); kind++ {
			want, wanted := leastByTheRule(list, kind)
			d, code := impl.LeastDoc(list, kind)
			if !alike(d, want) || code != wanted {
				t.Fatalf("LeastDoc(%v, %d) = %v, %d; want %v, %d", list, kind, d, code, want, wanted)
			}
			seen[code]++
			if code != impl.OK {
				continue
			}
			if len(d.Nodes) > 4 {
				large++
			}
			if id, code := impl.CheckDoc(list, d); id != 0 || code != impl.OK || !impl.DocOK(d) {
				t.Fatalf("LeastDoc(%v, %d) = %v, of which CheckDoc is %d, %d", list, kind, d, id, code)
			}
			if id, code := checkDocByTheRule(list, d); id != 0 || code != impl.OK {
				t.Fatalf("LeastDoc(%v, %d) = %v, which the schema does not take", list, kind, d)
			}
		}
	}
	if seen[impl.OK] < 1000 || seen[impl.ErrDeep] < 1000 || large < 500 {
		t.Error("too few of one sort:", seen, large)
	}
}

// TestP6LeastDocCodes: ErrLong of the schema, ErrBad of it, ErrKind of a kind, ErrDeep.
func TestP6LeastDocCodes(t *testing.T) {
	circle := []impl.Rule{{Name: "a", Terms: []impl.Term{term(0, 1)}}}
	kinds := []int{math.MinInt, -1, 0, 1, 2, 5, 6, 8, 9, 1<<32 + 1, math.MaxInt}
	for _, kind := range kinds {
		for i, v := range []struct {
			list  []impl.Rule
			rules int
			code  int
		}{
			{plainRules(impl.MaxList + 1), 0, impl.ErrLong}, {plainRules(impl.MaxList), 0, impl.ErrBad}, {plainRules(9), 0, impl.ErrBad}, {nil, 0, impl.ErrBad},
			{demoRules(), 5, impl.ErrKind}, {plainRules(1), 1, impl.ErrKind}, {plainRules(8), 8, impl.ErrKind}, {circle, 1, impl.ErrKind},
		} {
			want := v.code
			if kind >= 1 && kind <= v.rules {
				want = impl.OK
			}
			if kind == 1 && i == 7 {
				want = impl.ErrDeep
			}
			d, code := impl.LeastDoc(v.list, kind)
			if code != want || code != impl.OK && !alike(d, impl.Doc{}) {
				t.Errorf("LeastDoc of %d rules and kind %d = %v, %d; want code %d", len(v.list), kind, d, code, want)
			}
		}
		for _, list := range wrongSchemas() {
			want := impl.ErrBad
			if len(list) > impl.MaxList {
				want = impl.ErrLong
			}
			if d, code := impl.LeastDoc(list, kind); code != want || !alike(d, impl.Doc{}) {
				t.Errorf("LeastDoc of %d rules and kind %d = %v, %d; want code %d", len(list), kind, d, code, want)
			}
		}
	}
}
