package tests

import (
	"math"
	"slices"
	"testing"

	"loop.example/g00701/impl"
)

func TestP6KidsOf(t *testing.T) {
	for _, v := range []struct {
		d    impl.Doc
		id   int
		want []int
	}{
		{demoDoc(), 1, []int{3, 2, 2}}, {demoDoc(), 2, nil}, {demoDoc(), 3, []int{3}}, {demoDoc(), 5, []int{3, 4}}, {demoDoc(), 9, nil},
		{tangledDoc(), 30, []int{6, 1, 8}}, {tangledDoc(), 3, []int{7, 2}}, {tangledDoc(), 99, nil}, {fanDoc(12), 1, repeated(3, 12)},
		{bushDoc(13), 1, []int{3, 4, 5, 6, 7, 8, 1, 2, 3, 4, 5, 6}},
	} {
		if got, code := impl.KidsOf(v.d, v.id); !slices.Equal(got, v.want) || code != impl.OK {
			t.Errorf("KidsOf(%v, %d) = %v, %d; want %v", v.d, v.id, got, code, v.want)
		}
	}
	for _, d := range rightDocs() {
		for _, n := range d.Nodes {
			if got, code := impl.KidsOf(d, n.Id); !slices.Equal(got, kidsByTheRule(d, n.Id)) || code != impl.OK {
				t.Errorf("KidsOf(%v, %d) = %v, %d", d, n.Id, got, code)
			}
		}
	}
}

func TestP6KidsOfWhatIsNotThere(t *testing.T) {
	for _, id := range []int{math.MinInt, -1, 0, 1, 9, 10, 77, 1<<32 + 1, math.MaxInt} {
		for _, d := range append(rightDocs(), wrongDocs()...) {
			_, there := nodeByTheRule(d, id)
			want := impl.OK
			if !rightByTheRule(d) {
				want = impl.ErrBad
			} else if !there {
				want = impl.ErrNone
			}
			if got, code := impl.KidsOf(d, id); code != want || code != impl.OK && len(got) > 0 {
				t.Errorf("KidsOf(%v, %d) = %v, %d; want code %d", d, id, got, code, want)
			}
		}
	}
}

// family is a document of a node and its kids, by their kinds.
func family(kind int, text string, kids ...int) impl.Doc {
	d := impl.Doc{Root: 1, Next: len(kids) + 2, Nodes: []impl.Node{{Id: 1, Kind: kind, Text: text}}}
	for i, kid := range kids {
		d.Nodes[0].Kids = append(d.Nodes[0].Kids, i+2)
		d.Nodes = append(d.Nodes, impl.Node{Id: i + 2, Kind: kid})
	}
	return d
}

func TestP6CheckNode(t *testing.T) {
	demo := demoRules()
	none := []impl.Rule{{Name: "none"}, {Name: "leaf", Leaf: true}, {Name: "may", Terms: []impl.Term{term(1, 1), term(2, 2)}}}
	for i, v := range []struct {
		list []impl.Rule
		d    impl.Doc
		code int
	}{
		// A Leaf with a Text, without one, and with Kids.
		{demo, family(3, "text"), impl.OK}, {demo, family(3, ""), impl.OK}, {demo, family(3, "", 3), impl.ErrContent}, {demo, family(3, "text", 3), impl.ErrContent},
		{none, family(2, "twenty bytes of text"), impl.OK}, {none, family(2, "", 1), impl.ErrContent}, {none, family(2, "", 8), impl.ErrContent},
		// Another one with a Text, whatever its Kids are.
		{demo, family(1, "x"), impl.ErrContent}, {demo, family(1, "\x00"), impl.ErrContent}, {demo, family(2, "x", 3), impl.ErrContent}, {none, family(1, "x"), impl.ErrContent}, {none, family(3, " "), impl.ErrContent},
		// No Kids, where its Terms take none, and where they do not.
		{demo, family(1, ""), impl.OK}, {demo, family(5, ""), impl.OK}, {none, family(1, ""), impl.OK}, {none, family(3, ""), impl.OK},
		{demo, family(2, ""), impl.ErrContent}, {demo, family(4, ""), impl.ErrContent},
		// Kids that match, and that do not.
		{demo, family(1, "", 3, 3, 2, 4), impl.OK}, {demo, family(1, "", 2, 3, 4), impl.OK}, {demo, family(1, "", 5), impl.ErrContent}, {demo, family(1, "", 1), impl.ErrContent},
		{demo, family(2, "", 3), impl.OK}, {demo, family(2, "", 3, 2, 2), impl.OK}, {demo, family(2, "", 2, 3), impl.ErrContent}, {demo, family(2, "", 3, 5), impl.ErrContent},
		{demo, family(4, "", 5), impl.OK}, {demo, family(4, "", repeated(5, 12)...), impl.OK}, {demo, family(4, "", append(repeated(5, 11), 4)...), impl.ErrContent},
		{none, family(1, "", 1), impl.ErrContent}, {none, family(3, "", 1), impl.OK}, {none, family(3, "", 2, 2), impl.OK}, {none, family(3, "", 2, 1), impl.ErrContent}, {none, family(3, "", 1, 1), impl.ErrContent},
		{demo, family(1, "", repeated(3, 12)...), impl.OK},
		// Kids of a kind that has no rule are kids that no term takes.
		{demo, family(1, "", 6), impl.ErrContent}, {demo, family(5, "", 3, 8), impl.ErrContent},
		// A kind that has no rule, whatever stands in it.
		{demo, family(5, ""), impl.OK}, {demo, family(6, ""), impl.ErrKind}, {demo, family(6, "x", 1), impl.ErrKind}, {demo, family(8, ""), impl.ErrKind}, {demo, family(8, "x", 8, 8), impl.ErrKind},
		{none, family(4, ""), impl.ErrKind}, {plainRules(1), family(1, ""), impl.OK}, {plainRules(1), family(2, ""), impl.ErrKind}, {plainRules(7), family(8, ""), impl.ErrKind}, {plainRules(8), family(8, ""), impl.OK},
	} {
		if code := checkByTheRule(v.list, v.d, 1); code != v.code {
			t.Fatalf("%d: by the rule it is %d", i, code)
		}
		if code := impl.CheckNode(v.list, v.d, 1); code != v.code {
			t.Errorf("%d: CheckNode(%v, %v, 1) = %d; want %d", i, v.list, v.d, code, v.code)
		}
	}
}

// TestP6CheckNodeAsksOfOneNodeAlone: what stands in other nodes is not looked at.
func TestP6CheckNodeAsksOfOneNodeAlone(t *testing.T) {
	d := turned(demoDoc(), func(d *impl.Doc) {
		d.Nodes[4].Text = "sect"
		d.Nodes[7].Kind = 8
	})
	for id, want := range map[int]int{1: impl.OK, 2: impl.OK, 3: impl.OK, 4: impl.OK, 5: impl.ErrContent, 6: impl.OK, 7: impl.ErrContent, 8: impl.ErrKind, 9: impl.OK, 10: impl.ErrNone, 0: impl.ErrNone} {
		if code := impl.CheckNode(demoRules(), d, id); code != want {
			t.Errorf("CheckNode of %d = %d; want %d", id, code, want)
		}
	}
}

func TestP6CheckDoc(t *testing.T) {
	for i, v := range []struct {
		turn     func(*impl.Doc)
		id, code int
	}{
		{func(d *impl.Doc) {}, 0, impl.OK},
		{func(d *impl.Doc) { d.Nodes[1].Text, d.Nodes[8].Attr = "", 99 }, 0, impl.OK},
		{func(d *impl.Doc) { deepen(d, 1, 1) }, 0, impl.OK},
		{func(d *impl.Doc) { deepen(d, 9, 1) }, 9, impl.ErrContent},
		{func(d *impl.Doc) { d.Nodes[0].Text = "x" }, 1, impl.ErrContent},
		{func(d *impl.Doc) { d.Nodes[0].Kind = 6 }, 1, impl.ErrKind},
		{func(d *impl.Doc) { d.Nodes[0].Kind = 8 }, 1, impl.ErrKind},
		{func(d *impl.Doc) { d.Nodes[7].Text = "x" }, 8, impl.ErrContent},
		{func(d *impl.Doc) { d.Nodes[8].Kind = 6 }, 8, impl.ErrContent},
		{func(d *impl.Doc) { d.Nodes[4].Kids = []int{7, 6} }, 5, impl.ErrContent},
		// Several: the first one in the order of InOrder, of whichever code.
		{func(d *impl.Doc) { d.Nodes[0].Kids = []int{5, 3, 2}; d.Nodes[2].Text, d.Nodes[6].Text = "x", "x" }, 7, impl.ErrContent},
		{func(d *impl.Doc) { d.Nodes[0].Kids = []int{2, 5, 3}; d.Nodes[3].Kind, d.Nodes[7].Text = 5, "x" }, 8, impl.ErrContent},
		{func(d *impl.Doc) { d.Nodes[3].Kind, d.Nodes[7].Text = 8, "x" }, 3, impl.ErrContent},
		{func(d *impl.Doc) { d.Nodes[4].Kind, d.Nodes[7].Text = 8, "x" }, 1, impl.ErrContent},
		{func(d *impl.Doc) { d.Nodes[0].Kind, d.Nodes[1].Kids = 7, nil }, 1, impl.ErrKind},
	} {
		d := turned(demoDoc(), v.turn)
		if id, code := checkDocByTheRule(demoRules(), d); id != v.id || code != v.code {
			t.Fatalf("%d: by the rule it is %d, %d", i, id, code)
		}
		if id, code := impl.CheckDoc(demoRules(), d); id != v.id || code != v.code {
			t.Errorf("%d: CheckDoc = %d, %d; want %d, %d", i, id, code, v.id, v.code)
		}
	}
}

// TestP6CheckDocGoesInOrderFromRoot: the node with the least Id, and the first one in Nodes, come later.
func TestP6CheckDocGoesInOrderFromRoot(t *testing.T) {
	list := []impl.Rule{{Name: "a", Terms: []impl.Term{term(2, 1, 2)}}, {Name: "b", Leaf: true}}
	d := impl.Doc{Root: 9, Next: 10, Nodes: []impl.Node{
		{Id: 1, Kind: 1, Text: "x"}, {Id: 3, Kind: 1, Kids: []int{7}}, {Id: 5, Kind: 2, Kids: []int{8}},
		{Id: 7, Kind: 1, Text: "x"}, {Id: 8, Kind: 3}, {Id: 9, Kind: 1, Kids: []int{3, 5, 1}},
	}}
	for _, v := range []struct {
		kids     []int
		id, code int
	}{{[]int{3, 5, 1}, 7, impl.ErrContent}, {[]int{5, 3, 1}, 5, impl.ErrContent}, {[]int{1, 5, 3}, 1, impl.ErrContent}} {
		d := turned(d, func(d *impl.Doc) { d.Nodes[5].Kids = v.kids })
		if id, code := impl.CheckDoc(list, d); id != v.id || code != v.code {
			t.Errorf("CheckDoc with Kids %v = %d, %d; want %d, %d", v.kids, id, code, v.id, v.code)
		}
	}
}

func TestP6ThrownDocumentsThatASchemaTakes(t *testing.T) {
	throw := &dice{67}
	var seen tally
	found, several := 0, 0
	for found < 12000 {
		list := thrownRules(throw)
		d, ok := thrownTaken(throw, list)
		if !ok {
			continue
		}
		found++
		if len(d.Nodes) > 3 {
			several++
		}
		if !rightByTheRule(d) {
			t.Fatal("no right document", d)
		}
		if id, code := impl.CheckDoc(list, d); id != 0 || code != impl.OK {
			t.Fatalf("CheckDoc(%v, %v) = %d, %d", list, d, id, code)
		}
		d = disturbed(throw, d, 1+throw.below(3))
		want, wanted := checkDocByTheRule(list, d)
		if id, code := impl.CheckDoc(list, d); id != want || code != wanted {
			t.Fatalf("CheckDoc(%v, %v) = %d, %d; want %d, %d", list, d, id, code, want, wanted)
		}
		for _, n := range d.Nodes {
			if code := impl.CheckNode(list, d, n.Id); code != checkByTheRule(list, d, n.Id) {
				t.Fatalf("CheckNode(%v, %v, %d) = %d", list, d, n.Id, code)
			}
		}
		seen.count(wanted == impl.OK)
	}
	seen.askBoth(t)
	if several < 1000 {
		t.Error("too few documents of several nodes:", several)
	}
}

func TestP6ThrownDocumentsAndSchemas(t *testing.T) {
	throw := &dice{71}
	for range 4000 {
		list, d := thrownRules(throw), thrownDoc(throw, 1+throw.below(20))
		for i := range d.Nodes {
			if throw.below(3) > 0 {
				d.Nodes[i].Text = ""
			}
		}
		want, wanted := checkDocByTheRule(list, d)
		if id, code := impl.CheckDoc(list, d); id != want || code != wanted {
			t.Fatalf("CheckDoc(%v, %v) = %d, %d; want %d, %d", list, d, id, code, want, wanted)
		}
	}
}

// TestP6CodesAheadOfWhatIsChecked: ErrLong of the schema, ErrBad of it, ErrBad of the document, ErrNone, ErrKind.
func TestP6CodesAheadOfWhatIsChecked(t *testing.T) {
	wrong := turned(demoDoc(), func(d *impl.Doc) { d.Next = 9 })
	odd := turned(demoDoc(), func(d *impl.Doc) { d.Nodes[8].Kind = 7 })
	for i, v := range []struct {
		list []impl.Rule
		d    impl.Doc
		id   int
		code int
	}{
		{plainRules(impl.MaxList + 1), demoDoc(), 1, impl.ErrLong}, {plainRules(impl.MaxList + 1), wrong, 77, impl.ErrLong}, {make([]impl.Rule, 5000), impl.Doc{}, math.MinInt, impl.ErrLong},
		{plainRules(impl.MaxList), demoDoc(), 1, impl.ErrBad}, {plainRules(9), demoDoc(), 77, impl.ErrBad}, {nil, demoDoc(), 1, impl.ErrBad}, {nil, demoDoc(), 77, impl.ErrBad}, {nil, wrong, 1, impl.ErrBad}, {[]impl.Rule{}, odd, 9, impl.ErrBad},
		{demoRules(), wrong, 1, impl.ErrBad}, {demoRules(), wrong, 77, impl.ErrBad}, {demoRules(), impl.Doc{}, 0, impl.ErrBad}, {demoRules(), chainDoc(7), 1, impl.ErrBad}, {demoRules(), bushDoc(5000), 1, impl.ErrBad},
		{demoRules(), odd, 10, impl.ErrNone}, {demoRules(), demoDoc(), 77, impl.ErrNone}, {demoRules(), demoDoc(), 0, impl.ErrNone}, {demoRules(), demoDoc(), -1, impl.ErrNone},
		{demoRules(), demoDoc(), math.MaxInt, impl.ErrNone}, {demoRules(), demoDoc(), math.MinInt, impl.ErrNone}, {demoRules(), demoDoc(), 1<<32 + 1, impl.ErrNone},
		{demoRules(), odd, 9, impl.ErrKind}, {demoRules(), demoDoc(), 9, impl.OK},
	} {
		if code := askedByTheRule(v.list, v.d, v.id); code != v.code {
			t.Fatalf("%d: by the rule it is %d", i, code)
		}
		if code := impl.CheckNode(v.list, v.d, v.id); code != v.code {
			t.Errorf("%d: CheckNode = %d; want %d", i, code, v.code)
		}
		if kinds, code := impl.MayInsert(v.list, v.d, v.id); code != v.code || len(kinds) > 0 {
			t.Errorf("%d: MayInsert = %v, %d; want code %d", i, kinds, code, v.code)
		}
		want, wanted := checkDocByTheRule(v.list, v.d)
		if id, code := impl.CheckDoc(v.list, v.d); id != want || code != wanted {
			t.Errorf("%d: CheckDoc = %d, %d; want %d, %d", i, id, code, want, wanted)
		}
	}
	for _, list := range wrongSchemas() {
		for _, d := range []impl.Doc{demoDoc(), wrong, odd} {
			want := impl.ErrBad
			if len(list) > impl.MaxList {
				want = impl.ErrLong
			}
			if code := impl.CheckNode(list, d, 77); code != want {
				t.Errorf("CheckNode = %d of %d rules; want %d", code, len(list), want)
			}
			if id, code := impl.CheckDoc(list, d); id != 0 || code != want {
				t.Errorf("CheckDoc = %d, %d of %d rules; want %d", id, code, len(list), want)
			}
		}
	}
	for _, w := range wrongTurns() {
		d := turned(demoDoc(), w.make)
		if id, code := impl.CheckDoc(demoRules(), d); id != 0 || code != impl.ErrBad || impl.CheckNode(demoRules(), d, 77) != impl.ErrBad {
			t.Errorf("%s: CheckDoc = %d, %d", w.what, id, code)
		}
	}
}
