package tests

import (
	"slices"
	"testing"

	"loop.example/g00701/impl"
)

func TestP3LaidOverItself(t *testing.T) {
	for _, d := range rightDocs() {
		for _, n := range d.Nodes {
			sub, code := impl.CopySub(d, n.Id)
			if code != impl.OK {
				t.Fatal("CopySub", code)
			}
			got, code := impl.SpliceSub(d, sub)
			if d.Next+len(sub.Nodes) > 999999 {
				if code != impl.ErrRange {
					t.Errorf("SpliceSub at %d = %d of Next %d", n.Id, code, d.Next)
				}
				continue
			}
			if code != impl.OK || !alike(got, d) || !impl.SameDoc(got, d) {
				t.Errorf("SpliceSub at %d = %+v, %d; want %+v", n.Id, got, code, d)
			}
		}
	}
}

// TestP3LaidOverByAnother: of 5, 6 and 8 the Ids are kept; 40, 2 and 41 are new, and 2 is also the Id of a node outside.
func TestP3LaidOverByAnother(t *testing.T) {
	sub := impl.Doc{Root: 5, Next: 60, Nodes: []impl.Node{
		{Id: 2, Kind: 4, Attr: 9, Text: "two", Kids: []int{8}},
		{Id: 5, Kind: 7, Attr: 3, Text: "five", Kids: []int{40, 2, 6}},
		{Id: 6, Kind: 3, Text: "six"},
		{Id: 8, Kind: 3, Text: "eight", Kids: []int{41}},
		{Id: 40, Kind: 2, Text: "forty"},
		{Id: 41, Kind: 1, Attr: 99},
	}}
	want := impl.Doc{Root: 1, Next: 13, Nodes: []impl.Node{
		{Id: 1, Kind: 1, Kids: []int{2, 3, 5}},
		{Id: 2, Kind: 3, Text: "intro"},
		{Id: 3, Kind: 2, Kids: []int{4}},
		{Id: 4, Kind: 3, Text: "one"},
		{Id: 5, Kind: 7, Attr: 3, Text: "five", Kids: []int{10, 11, 6}},
		{Id: 6, Kind: 3, Text: "six"},
		{Id: 8, Kind: 3, Text: "eight", Kids: []int{12}},
		{Id: 10, Kind: 2, Text: "forty"},
		{Id: 11, Kind: 4, Attr: 9, Text: "two", Kids: []int{8}},
		{Id: 12, Kind: 1, Attr: 99},
	}}
	got, code := impl.SpliceSub(demoDoc(), sub)
	if code != impl.OK || !alike(got, want) {
		t.Errorf("SpliceSub = %+v, %d; want %+v", got, code, want)
	}
}

func TestP3LaidOverTheRoot(t *testing.T) {
	sub := impl.Doc{Root: 1, Next: 100, Nodes: []impl.Node{
		{Id: 1, Kind: 8, Kids: []int{10, 9}}, {Id: 9, Kind: 7}, {Id: 10, Kind: 6},
	}}
	want := impl.Doc{Root: 1, Next: 11, Nodes: []impl.Node{
		{Id: 1, Kind: 8, Kids: []int{10, 9}}, {Id: 9, Kind: 7}, {Id: 10, Kind: 6},
	}}
	if got, code := impl.SpliceSub(demoDoc(), sub); code != impl.OK || !alike(got, want) {
		t.Errorf("SpliceSub = %+v, %d; want %+v", got, code, want)
	}
	// The Id below Next that no node has any more is not given again.
	short := impl.Doc{Root: 1, Next: 2, Nodes: []impl.Node{{Id: 1, Kind: 3}}}
	want = impl.Doc{Root: 1, Next: 10, Nodes: short.Nodes}
	if got, code := impl.SpliceSub(demoDoc(), short); code != impl.OK || !alike(got, want) {
		t.Errorf("SpliceSub = %+v, %d; want %+v", got, code, want)
	}
}

// pairs are documents as dice fall, the second with a Root that the first has in most cases.
func pairs(throw *dice, most int) (impl.Doc, impl.Doc) {
	d, sub := thrownDoc(throw, most), thrownDoc(throw, most)
	if throw.below(10) > 0 {
		rename(&sub, d.Nodes[throw.below(len(d.Nodes))].Id)
	}
	return d, sub
}

// rename gives Root another Id; a node that has it gets Root's.
func rename(d *impl.Doc, id int) {
	old := d.Root
	swap := func(n int) int {
		switch n {
		case old:
			return id
		case id:
			return old
		}
		return n
	}
	for i := range d.Nodes {
		d.Nodes[i].Id = swap(d.Nodes[i].Id)
		for j := range d.Nodes[i].Kids {
			d.Nodes[i].Kids[j] = swap(d.Nodes[i].Kids[j])
		}
	}
	d.Root = id
	d.Next = max(d.Next, id+1)
	slices.SortFunc(d.Nodes, func(a, b impl.Node) int { return a.Id - b.Id })
}

func TestP3ThrownSplices(t *testing.T) {
	throw := &dice{29}
	seen := map[int]int{}
	for range 6000 {
		d, sub := pairs(throw, 1+throw.below(40))
		want, wantCode := spliceByTheRule(d, sub)
		got, code := impl.SpliceSub(d, sub)
		if code != wantCode || !alike(got, want) {
			t.Fatalf("SpliceSub(%+v, %+v) = %+v, %d; want %+v, %d", d, sub, got, code, want, wantCode)
		}
		seen[code]++
		if code == impl.OK {
			askSplice(t, d, sub, got)
		}
	}
	for _, code := range []int{impl.OK, impl.ErrNone, impl.ErrFull, impl.ErrDeep} {
		if seen[code] < 20 {
			t.Errorf("code %d came up %d times", code, seen[code])
		}
	}
}

// askSplice asks promise 3 in its own words.
func askSplice(t *testing.T, d, sub, got impl.Doc) {
	t.Helper()
	if !impl.DocOK(got) {
		t.Fatalf("SpliceSub(%+v, %+v): %+v is not right", d, sub, got)
	}
	laid, code := impl.CopySub(got, sub.Root)
	if code != impl.OK || !impl.SameShape(laid, sub) {
		t.Fatalf("SpliceSub(%+v, %+v): below it is %+v, %d", d, sub, laid, code)
	}
	replaced := orderByTheRule(d, sub.Root)
	for _, n := range d.Nodes {
		if slices.Contains(replaced, n.Id) {
			continue
		}
		if now, there := nodeByTheRule(got, n.Id); !there || !alike(now, n) {
			t.Fatalf("SpliceSub(%+v, %+v): outside %+v became %+v", d, sub, n, now)
		}
	}
	for _, n := range laid.Nodes {
		if !slices.Contains(replaced, n.Id) && (n.Id < d.Next || n.Id >= got.Next) {
			t.Fatalf("SpliceSub(%+v, %+v): %d is not new", d, sub, n.Id)
		}
	}
}

func TestP3SplicesAtTheirEdges(t *testing.T) {
	leaf := func(id int) impl.Doc { return impl.Doc{Root: id, Next: id + 1, Nodes: []impl.Node{{Id: id, Kind: 3}}} }
	late := func(d impl.Doc, next int) impl.Doc { d.Next = next; return d }
	rooted := func(d impl.Doc, id int) impl.Doc { return turned(d, func(d *impl.Doc) { rename(d, id) }) }
	for i, v := range []struct {
		d, sub impl.Doc
		code   int
	}{
		{late(demoDoc(), 999998), leaf(9), impl.OK},
		{late(demoDoc(), 999999), leaf(9), impl.ErrRange},
		{late(demoDoc(), 999993), rooted(chainDoc(6), 1), impl.OK},
		{late(demoDoc(), 999994), rooted(chainDoc(6), 1), impl.ErrRange},
		{late(demoDoc(), 999959), rooted(bushDoc(40), 1), impl.OK},
		{late(demoDoc(), 999960), rooted(bushDoc(40), 1), impl.ErrRange},
		{late(demoDoc(), 10), late(leaf(9), 999999), impl.OK},
		{bushDoc(30), rooted(bushDoc(11), 30), impl.OK},
		{bushDoc(30), rooted(bushDoc(12), 30), impl.ErrFull},
		{bushDoc(40), rooted(bushDoc(1), 40), impl.OK},
		{bushDoc(40), rooted(bushDoc(2), 40), impl.ErrFull},
		{bushDoc(40), rooted(bushDoc(13), 2), impl.OK},
		{bushDoc(40), rooted(bushDoc(14), 2), impl.ErrFull},
		{bushDoc(40), rooted(bushDoc(40), 1), impl.OK},
		{chainDoc(6), rooted(chainDoc(1), 6), impl.OK},
		{chainDoc(6), rooted(chainDoc(2), 6), impl.ErrDeep},
		{chainDoc(6), rooted(chainDoc(6), 1), impl.OK},
		{chainDoc(2), rooted(chainDoc(5), 2), impl.OK},
		{chainDoc(2), rooted(chainDoc(6), 2), impl.ErrDeep},
		{demoDoc(), leaf(10), impl.ErrNone},
		{demoDoc(), tangledDoc(), impl.ErrNone},
		{late(demoDoc(), 999999), tangledDoc(), impl.ErrNone},
		{late(bushDoc(40), 999998), rooted(bushDoc(2), 40), impl.ErrRange},
		{late(bushDoc(40), 999997), rooted(bushDoc(2), 40), impl.ErrFull},
		{late(chainDoc(6), 999998), rooted(chainDoc(2), 6), impl.ErrRange},
		{late(chainDoc(6), 999997), rooted(chainDoc(2), 6), impl.ErrDeep},
		{chainDoc(6), rooted(bushDoc(36), 6), impl.ErrFull},
		{chainDoc(6), rooted(bushDoc(35), 6), impl.ErrDeep},
		{turned(demoDoc(), func(d *impl.Doc) { d.Next = 9 }), tangledDoc(), impl.ErrBad},
		{demoDoc(), turned(tangledDoc(), func(d *impl.Doc) { d.Next = 99 }), impl.ErrBad},
	} {
		want, wantCode := spliceByTheRule(v.d, v.sub)
		if wantCode != v.code {
			t.Fatalf("%d: by the rule it is %d, not %d", i, wantCode, v.code)
		}
		if got, code := impl.SpliceSub(v.d, v.sub); code != v.code || !alike(got, want) {
			t.Errorf("%d: SpliceSub = %+v, %d; want %+v, %d", i, got, code, want, v.code)
		}
	}
}

func TestP3AlikeDocuments(t *testing.T) {
	list := rightDocs()
	for i, a := range list {
		for j, b := range list {
			if got := impl.SameDoc(a, clone(b)); got != (i == j) {
				t.Errorf("SameDoc of %d and %d is %v", i, j, got)
			}
		}
	}
	for i, turn := range []func(*impl.Doc){
		func(d *impl.Doc) { d.Next = 11 },
		func(d *impl.Doc) { d.Nodes[8].Id = 10; d.Nodes[7].Kids = []int{10}; d.Next = 11 },
		func(d *impl.Doc) { d.Nodes[8].Kind = 4 },
		func(d *impl.Doc) { d.Nodes[8].Attr = 8 },
		func(d *impl.Doc) { d.Nodes[8].Text = "poinT" },
		func(d *impl.Doc) { d.Nodes[0].Kids = []int{2, 5, 3} },
		func(d *impl.Doc) { d.Nodes[0].Kids = []int{2, 3}; d.Nodes[2].Kids = []int{4, 5} },
		func(d *impl.Doc) { d.Nodes = d.Nodes[:8]; d.Nodes[7].Kids = nil },
		func(d *impl.Doc) { deepen(d, 2, 1) },
		func(d *impl.Doc) { rename(d, 2) },
	} {
		other := turned(demoDoc(), turn)
		if !rightByTheRule(other) {
			t.Fatal("the rule says that this is not right", i)
		}
		if impl.SameDoc(demoDoc(), other) || impl.SameDoc(other, demoDoc()) {
			t.Errorf("%d: SameDoc of %+v", i, other)
		}
	}
	empty := turned(demoDoc(), func(d *impl.Doc) { eachNode(d, func(n *impl.Node) { n.Kids = append([]int{}, n.Kids...) }) })
	if !impl.SameDoc(demoDoc(), empty) || !impl.SameDoc(empty, demoDoc()) || !impl.SameShape(empty, demoDoc()) {
		t.Error("an empty list of Kids is not nil's like")
	}
}

func TestP3AlikeShapes(t *testing.T) {
	for i, v := range []struct {
		turn func(*impl.Doc)
		same bool
	}{
		{func(d *impl.Doc) {}, true},
		{func(d *impl.Doc) { d.Next = 11 }, true},
		{func(d *impl.Doc) { rename(d, 9) }, true},
		{func(d *impl.Doc) { rename(d, 900) }, true},
		{func(d *impl.Doc) { d.Nodes[8].Id = 10; d.Nodes[7].Kids = []int{10}; d.Next = 11 }, true},
		{func(d *impl.Doc) { d.Nodes[0].Kids = []int{2, 5, 3} }, false},
		{func(d *impl.Doc) { d.Nodes[0].Kind = 2 }, false},
		{func(d *impl.Doc) { d.Nodes[8].Kind = 4 }, false},
		{func(d *impl.Doc) { d.Nodes[8].Attr = 8 }, false},
		{func(d *impl.Doc) { d.Nodes[8].Text = "" }, false},
		{func(d *impl.Doc) { deepen(d, 2, 1) }, false},
		{func(d *impl.Doc) { deepen(d, 1, 1) }, false},
		{func(d *impl.Doc) { d.Nodes = d.Nodes[:8]; d.Nodes[7].Kids = nil }, false},
		{func(d *impl.Doc) { d.Nodes[0].Kids = []int{2, 3}; d.Nodes[2].Kids = []int{4, 5} }, false},
	} {
		other := turned(demoDoc(), v.turn)
		if !rightByTheRule(other) {
			t.Fatal("the rule says that this is not right", i)
		}
		if impl.SameShape(demoDoc(), other) != v.same || impl.SameShape(other, demoDoc()) != v.same {
			t.Errorf("%d: SameShape is %v of %+v", i, !v.same, other)
		}
	}
}
