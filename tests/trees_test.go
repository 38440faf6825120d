package tests

import (
	"math"
	"slices"
	"testing"

	"loop.example/g00701/impl"
)

func TestP3NewDocuments(t *testing.T) {
	for kind := 1; kind <= 8; kind++ {
		d, code := impl.NewDoc(kind)
		want := impl.Doc{Root: 1, Next: 2, Nodes: []impl.Node{{Id: 1, Kind: kind}}}
		if code != impl.OK || !alike(d, want) || !impl.DocOK(d) {
			t.Errorf("NewDoc(%d) = %+v, %d", kind, d, code)
		}
	}
	for _, kind := range []int{math.MinInt, -1, 0, 9, 10, 1 << 32, math.MaxInt} {
		if d, code := impl.NewDoc(kind); code != impl.ErrKind || !alike(d, impl.Doc{}) {
			t.Errorf("NewDoc(%d) = %+v, %d", kind, d, code)
		}
	}
}

func TestP3BoundsOfTrees(t *testing.T) {
	bounds := []int{impl.MaxNodes, impl.MaxDepth, impl.MaxKids, impl.MaxRun, impl.MaxAttr, impl.MaxKind}
	if !slices.Equal(bounds, []int{40, 6, 12, 20, 99, 8}) {
		t.Error("a bound is another one", bounds)
	}
}

func TestP3RightDocuments(t *testing.T) {
	for i, d := range rightDocs() {
		if !rightByTheRule(d) {
			t.Fatal("the rule says that this is not right", i, d)
		}
		if !impl.DocOK(d) {
			t.Errorf("DocOK is false of %d: %+v", i, d)
		}
	}
}

func TestP3DocumentsThatAreNotRight(t *testing.T) {
	for _, w := range wrongTurns() {
		d := turned(demoDoc(), w.make)
		if rightByTheRule(d) {
			t.Fatal("the rule says that this is right:", w.what)
		}
		askAllCallsForBad(t, w.what, d)
	}
	for _, d := range wrongDocs() {
		askAllCallsForBad(t, "another document", d)
	}
}

// askAllCallsForBad asks with nodes that are there and with such as are not: ErrBad comes ahead of ErrNone.
func askAllCallsForBad(t *testing.T, what string, d impl.Doc) {
	t.Helper()
	if impl.DocOK(d) {
		t.Errorf("%s: DocOK", what)
	}
	if impl.SameDoc(d, d) || impl.SameDoc(d, demoDoc()) || impl.SameDoc(demoDoc(), d) {
		t.Errorf("%s: SameDoc", what)
	}
	if impl.SameShape(d, d) || impl.SameShape(d, demoDoc()) || impl.SameShape(demoDoc(), d) {
		t.Errorf("%s: SameShape", what)
	}
	for _, id := range []int{1, 3, 9, 0, -1, 77, d.Root, math.MaxInt, math.MinInt} {
		if n, code := impl.NodeAt(d, id); code != impl.ErrBad || !alike(n, impl.Node{}) {
			t.Errorf("%s: NodeAt(%d) = %+v, %d", what, id, n, code)
		}
		if up, code := impl.ParentOf(d, id); code != impl.ErrBad || up != 0 {
			t.Errorf("%s: ParentOf(%d) = %d, %d", what, id, up, code)
		}
		if path, code := impl.PathOf(d, id); code != impl.ErrBad || len(path) != 0 {
			t.Errorf("%s: PathOf(%d) = %v, %d", what, id, path, code)
		}
		if list, code := impl.InOrder(d, id); code != impl.ErrBad || len(list) != 0 {
			t.Errorf("%s: InOrder(%d) = %v, %d", what, id, list, code)
		}
		if sub, code := impl.CopySub(d, id); code != impl.ErrBad || !alike(sub, impl.Doc{}) {
			t.Errorf("%s: CopySub(%d) = %+v, %d", what, id, sub, code)
		}
	}
	for _, other := range []impl.Doc{demoDoc(), tangledDoc(), d} {
		if out, code := impl.SpliceSub(d, other); code != impl.ErrBad || !alike(out, impl.Doc{}) {
			t.Errorf("%s: SpliceSub into it = %+v, %d", what, out, code)
		}
		if out, code := impl.SpliceSub(other, d); code != impl.ErrBad || !alike(out, impl.Doc{}) {
			t.Errorf("%s: SpliceSub of it = %+v, %d", what, out, code)
		}
	}
}

func TestP3DocumentsAtTheirEdges(t *testing.T) {
	late := func(next int) impl.Doc { return turned(demoDoc(), func(d *impl.Doc) { d.Next = next }) }
	one := func(n impl.Node) impl.Doc { n.Id = 1; return impl.Doc{Root: 1, Next: 2, Nodes: []impl.Node{n}} }
	for i, v := range []struct {
		d     impl.Doc
		right bool
	}{
		{bushDoc(0), false}, {bushDoc(1), true}, {bushDoc(39), true}, {bushDoc(40), true}, {bushDoc(41), false},
		{chainDoc(5), true}, {chainDoc(6), true}, {chainDoc(7), false}, {chainDoc(40), false},
		{fanDoc(11), true}, {fanDoc(12), true}, {fanDoc(13), false}, {fanDoc(39), false},
		{one(impl.Node{Kind: -1}), false}, {one(impl.Node{Kind: 0}), false}, {one(impl.Node{Kind: 1}), true},
		{one(impl.Node{Kind: 8}), true}, {one(impl.Node{Kind: 9}), false},
		{one(impl.Node{Kind: 1, Attr: -1}), false}, {one(impl.Node{Kind: 1, Attr: 0}), true},
		{one(impl.Node{Kind: 1, Attr: 99}), true}, {one(impl.Node{Kind: 1, Attr: 100}), false},
		{one(impl.Node{Kind: 1, Text: zeros(20)}), true}, {one(impl.Node{Kind: 1, Text: zeros(21)}), false},
		{one(impl.Node{Kind: 1, Kids: []int{}}), true}, {one(impl.Node{Kind: 1, Kids: []int{1}}), false},
		{late(1), false}, {late(9), false}, {late(10), true}, {late(999999), true}, {late(1000000), false},
		{impl.Doc{Root: 1, Next: 1, Nodes: []impl.Node{{Id: 1, Kind: 1}}}, false},
		{impl.Doc{Root: 1, Next: 2, Nodes: []impl.Node{{Id: 1, Kind: 1}}}, true},
		{impl.Doc{Root: 2, Next: 2, Nodes: []impl.Node{{Id: 2, Kind: 1}}}, false},
		{impl.Doc{Root: 0, Next: 2, Nodes: []impl.Node{{Id: 0, Kind: 1}}}, false},
		{impl.Doc{Root: 999998, Next: 999999, Nodes: []impl.Node{{Id: 999998, Kind: 1}}}, true},
		{impl.Doc{Root: 999999, Next: 1000000, Nodes: []impl.Node{{Id: 999999, Kind: 1}}}, false},
	} {
		if impl.DocOK(v.d) != v.right || rightByTheRule(v.d) != v.right {
			t.Errorf("%d: DocOK is %v of %+v", i, !v.right, v.d)
		}
	}
}

// TestP3SmallDocuments goes through all documents of up to three nodes and up to two Kids: all circles are among them.
func TestP3SmallDocuments(t *testing.T) {
	ids := []int{1, 2, 3, 4}
	kids := [][]int{nil}
	for _, a := range ids {
		kids = append(kids, []int{a})
		for _, b := range ids {
			kids = append(kids, []int{a, b})
		}
	}
	right := 0
	check := func(nodes ...impl.Node) {
		for root := 0; root <= 4; root++ {
			d := impl.Doc{Root: root, Next: 5, Nodes: nodes}
			want := rightByTheRule(d)
			if impl.DocOK(d) != want {
				t.Fatalf("DocOK is %v of %+v", !want, d)
			}
			list, code := impl.InOrder(d, root)
			if want && (code != impl.OK || len(list) != len(nodes)) || !want && code != impl.ErrBad {
				t.Fatalf("InOrder(%d) = %v, %d of %+v", root, list, code, d)
			}
			if want {
				right++
			}
		}
	}
	for _, a := range kids {
		one := impl.Node{Id: 1, Kind: 1, Kids: a}
		check(one)
		for _, b := range kids {
			two := impl.Node{Id: 2, Kind: 1, Kids: b}
			check(one, two)
			for _, c := range kids {
				check(one, two, impl.Node{Id: 3, Kind: 1, Kids: c})
			}
		}
	}
	// One tree of one node; two chains of two; six chains and, in two orders each, three forks of three.
	if right != 1+2+6+6 {
		t.Error("right documents:", right)
	}
}

// TestP3TurnedDocuments turns one thing of right documents, as dice fall.
func TestP3TurnedDocuments(t *testing.T) {
	throw := &dice{11}
	var seen tally
	for range 20000 {
		d := thrownDoc(throw, 8)
		n := &d.Nodes[throw.below(len(d.Nodes))]
		some := d.Nodes[throw.below(len(d.Nodes))].Id
		switch throw.below(8) {
		case 0:
			d.Root = some
		case 1:
			d.Next = throw.below(d.Next + 3)
		case 2:
			n.Id += throw.below(3) - 1
		case 3:
			n.Kids = append(slices.Clone(n.Kids), some)
		case 4:
			n.Kids = n.Kids[:throw.below(len(n.Kids)+1)]
		case 5:
			n.Kind = throw.below(11)
		case 6:
			n.Attr = throw.below(102) - 1
		case 7:
			n.Text = zeros(throw.below(24))
		}
		want := rightByTheRule(d)
		if impl.DocOK(d) != want {
			t.Fatalf("DocOK is %v of %+v", !want, d)
		}
		seen.count(want)
	}
	seen.askBoth(t)
}

func TestP3PathsOfTheDemoDocument(t *testing.T) {
	d := demoDoc()
	for _, v := range []struct {
		id, up      int
		path, order []int
	}{
		{1, 0, []int{1}, []int{1, 2, 3, 4, 5, 6, 7, 8, 9}},
		{2, 1, []int{1, 2}, []int{2}},
		{3, 1, []int{1, 3}, []int{3, 4}},
		{4, 3, []int{1, 3, 4}, []int{4}},
		{5, 1, []int{1, 5}, []int{5, 6, 7, 8, 9}},
		{7, 5, []int{1, 5, 7}, []int{7, 8, 9}},
		{9, 8, []int{1, 5, 7, 8, 9}, []int{9}},
	} {
		askPlaces(t, d, v.id, v.up, v.path, v.order)
	}
	d = tangledDoc()
	askPlaces(t, d, 30, 0, []int{30}, []int{30, 50, 51, 3, 70, 99, 4, 2})
	askPlaces(t, d, 3, 30, []int{30, 3}, []int{3, 70, 99, 4})
	askPlaces(t, d, 99, 70, []int{30, 3, 70, 99}, []int{99})
}

func askPlaces(t *testing.T, d impl.Doc, id, up int, path, order []int) {
	t.Helper()
	if got, code := impl.ParentOf(d, id); got != up || code != impl.OK {
		t.Errorf("ParentOf(%d) = %d, %d; want %d", id, got, code, up)
	}
	if got, code := impl.PathOf(d, id); !slices.Equal(got, path) || code != impl.OK {
		t.Errorf("PathOf(%d) = %v, %d; want %v", id, got, code, path)
	}
	if got, code := impl.InOrder(d, id); !slices.Equal(got, order) || code != impl.OK {
		t.Errorf("InOrder(%d) = %v, %d; want %v", id, got, code, order)
	}
}

func TestP3EachNodeHangsOnTheRoot(t *testing.T) {
	for _, d := range rightDocs() {
		for _, n := range d.Nodes {
			up := 0
			if n.Id != d.Root {
				up = parentsByTheRule(d, n.Id)[0]
			}
			askPlaces(t, d, n.Id, up, pathByTheRule(d, n.Id), orderByTheRule(d, n.Id))
			if got, code := impl.NodeAt(d, n.Id); code != impl.OK || !alike(got, n) {
				t.Errorf("NodeAt(%d) = %+v, %d; want %+v", n.Id, got, code, n)
			}
		}
	}
}

func TestP3NodesThatAreNotThere(t *testing.T) {
	for _, d := range rightDocs() {
		for _, id := range []int{math.MinInt, -1, 0, d.Next, d.Next + 1, 999999, 1000000, math.MaxInt} {
			askForNone(t, d, id)
		}
	}
	askForNone(t, tangledDoc(), 5)
	askForNone(t, tangledDoc(), 499)
}

func askForNone(t *testing.T, d impl.Doc, id int) {
	t.Helper()
	if n, code := impl.NodeAt(d, id); code != impl.ErrNone || !alike(n, impl.Node{}) {
		t.Errorf("NodeAt(%d) = %+v, %d", id, n, code)
	}
	if up, code := impl.ParentOf(d, id); code != impl.ErrNone || up != 0 {
		t.Errorf("ParentOf(%d) = %d, %d", id, up, code)
	}
	if path, code := impl.PathOf(d, id); code != impl.ErrNone || len(path) != 0 {
		t.Errorf("PathOf(%d) = %v, %d", id, path, code)
	}
	if list, code := impl.InOrder(d, id); code != impl.ErrNone || len(list) != 0 {
		t.Errorf("InOrder(%d) = %v, %d", id, list, code)
	}
	if sub, code := impl.CopySub(d, id); code != impl.ErrNone || !alike(sub, impl.Doc{}) {
		t.Errorf("CopySub(%d) = %+v, %d", id, sub, code)
	}
}

func TestP3CopiesOfSubtrees(t *testing.T) {
	for _, d := range rightDocs() {
		for _, n := range d.Nodes {
			want := impl.Doc{Root: n.Id, Next: d.Next}
			below := orderByTheRule(d, n.Id)
			for _, other := range d.Nodes {
				if slices.Contains(below, other.Id) {
					want.Nodes = append(want.Nodes, other)
				}
			}
			sub, code := impl.CopySub(d, n.Id)
			if code != impl.OK || !alike(sub, want) || !impl.DocOK(sub) {
				t.Errorf("CopySub(%d) = %+v, %d; want %+v", n.Id, sub, code, want)
			}
		}
	}
}
