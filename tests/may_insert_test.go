package tests

import (
	"slices"
	"testing"

	"loop.example/g00701/impl"
)

func TestP6MayInsert(t *testing.T) {
	ring := []string{"a: b c? d* e", "b:", "c:", "d: text", "e: text", "f: b? b? c+"}
	for i, v := range []struct {
		lines []string
		d     impl.Doc
		id    int
		want  []int
	}{
		{demoLines(), demoDoc(), 1, []int{2, 3, 4}}, {demoLines(), demoDoc(), 3, []int{2, 3, 4}}, {demoLines(), demoDoc(), 7, []int{5}}, {demoLines(), demoDoc(), 8, []int{3, 4}},
		// None of a Leaf, whatever stands in it.
		{demoLines(), demoDoc(), 4, nil}, {demoLines(), family(3, ""), 1, nil}, {demoLines(), family(3, "", 3), 1, nil},
		// No Kids: those that may stand there alone.
		{demoLines(), family(1, ""), 1, []int{2, 3, 4}}, {demoLines(), family(2, ""), 1, []int{3}}, {demoLines(), family(4, ""), 1, []int{5}}, {ring, family(1, ""), 1, nil}, {ring, family(2, ""), 1, nil}, {ring, family(6, ""), 1, []int{3}},
		// One kid more makes it match, at the first place, in the middle, at the last one.
		{ring, family(1, "", 5), 1, []int{2}}, {ring, family(1, "", 2), 1, []int{5}}, {ring, family(1, "", 2, 5), 1, []int{3, 4}}, {ring, family(1, "", 2, 3, 5), 1, []int{4}}, {ring, family(1, "", 2, 3, 4), 1, []int{5}},
		{ring, family(1, "", 3, 4, 4, 5), 1, []int{2}}, {demoLines(), family(2, "", 2, 4), 1, []int{3}},
		{ring, family(6, "", 2), 1, []int{3}}, {ring, family(6, "", 2, 3), 1, []int{2, 3}}, {ring, family(6, "", 2, 2, 3), 1, []int{3}},
		// None can mend what stands there.
		{ring, family(1, "", 5, 2), 1, nil}, {demoLines(), family(2, "", 5), 1, nil}, {demoLines(), family(1, "", 6), 1, nil}, {demoLines(), family(1, "", 8), 1, nil},
		// A Text is not looked at: it asks for its Terms alone.
		{demoLines(), family(1, "x"), 1, []int{2, 3, 4}},
		// Eleven Kids, and twelve.
		{demoLines(), family(4, "", repeated(5, 11)...), 1, []int{5}}, {demoLines(), family(4, "", repeated(5, 12)...), 1, nil},
		{demoLines(), family(1, "", repeated(3, 11)...), 1, []int{2, 3, 4}}, {demoLines(), family(1, "", repeated(3, 12)...), 1, nil}, {demoLines(), family(3, "", repeated(3, 12)...), 1, nil},
	} {
		list := rulesOf(t, v.lines...)
		if kinds, code := mayInsertByTheRule(list, v.d, v.id); !slices.Equal(kinds, v.want) || code != impl.OK {
			t.Fatalf("%d: by the rule it is %v, %d", i, kinds, code)
		}
		if kinds, code := impl.MayInsert(list, v.d, v.id); !slices.Equal(kinds, v.want) || code != impl.OK {
			t.Errorf("%d: MayInsert(%q, %v, %d) = %v, %d; want %v", i, v.lines, v.d, v.id, kinds, code, v.want)
		}
	}
}

// TestP6MayInsertOfAllKinds: each of eight kinds is named, in a document that has room for no node more.
func TestP6MayInsertOfAllKinds(t *testing.T) {
	if kinds, code := impl.MayInsert(greatRules(), bushDoc(40), 4); !slices.Equal(kinds, []int{1, 2, 3, 4, 5, 6, 7, 8}) || code != impl.OK {
		t.Errorf("MayInsert = %v, %d", kinds, code)
	}
}

// TestP6WhatMayBeInsertedKeepsANode: with a kid of each kind that is named, at some place, a node is as its schema asks;
// with one of another kind it is so at no place.
func TestP6WhatMayBeInsertedKeepsANode(t *testing.T) {
	throw := &dice{79}
	var seen tally
	for found := 0; found < 1500; {
		list := thrownRules(throw)
		d, ok := thrownTaken(throw, list)
		if !ok {
			continue
		}
		found++
		for _, n := range d.Nodes {
			kinds, code := impl.MayInsert(list, d, n.Id)
			if want, _ := mayInsertByTheRule(list, d, n.Id); code != impl.OK || !slices.Equal(kinds, want) {
				t.Fatalf("MayInsert(%v, %v, %d) = %v, %d; want %v", list, d, n.Id, kinds, code, want)
			}
			for kind := 1; kind <= 8 && hasRoom(d, n); kind++ {
				kept := keptWith(t, list, d, n, kind)
				if kept != slices.Contains(kinds, kind) {
					t.Fatalf("MayInsert(%v, %v, %d) = %v; of kind %d it is %v", list, d, n.Id, kinds, kind, kept)
				}
				seen.count(kept)
			}
		}
	}
	seen.askBoth(t)
}

func hasRoom(d impl.Doc, n impl.Node) bool {
	return len(n.Kids) < 12 && len(d.Nodes) < 40 && len(pathByTheRule(d, n.Id)) < 6
}

// keptWith asks CheckNode of the node with one kid more, at each place.
func keptWith(t *testing.T, list []impl.Rule, d impl.Doc, n impl.Node, kind int) bool {
	t.Helper()
	for at := range len(n.Kids) + 1 {
		more := turned(d, func(d *impl.Doc) {
			i := slices.IndexFunc(d.Nodes, func(other impl.Node) bool { return other.Id == n.Id })
			d.Nodes[i].Kids = slices.Insert(d.Nodes[i].Kids, at, d.Next)
			d.Nodes = append(d.Nodes, impl.Node{Id: d.Next, Kind: kind})
			d.Next++
		})
		switch code := impl.CheckNode(list, more, n.Id); code {
		case impl.OK:
			return true
		case impl.ErrContent:
		default:
			t.Fatalf("CheckNode(%v, %v, %d) = %d", list, more, n.Id, code)
		}
	}
	return false
}

func TestP6ThrownInserts(t *testing.T) {
	throw := &dice{83}
	seen := map[int]int{}
	for range 3000 {
		list, d := thrownRules(throw), thrownDoc(throw, 1+throw.below(20))
		for _, n := range d.Nodes {
			want, wanted := mayInsertByTheRule(list, d, n.Id)
			kinds, code := impl.MayInsert(list, d, n.Id)
			if !slices.Equal(kinds, want) || code != wanted {
				t.Fatalf("MayInsert(%v, %v, %d) = %v, %d; want %v, %d", list, d, n.Id, kinds, code, want, wanted)
			}
			seen[code]++
		}
	}
	if seen[impl.OK] < 1000 || seen[impl.ErrKind] < 1000 {
		t.Error("too few of one sort:", seen)
	}
}
