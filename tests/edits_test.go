package tests

import (
	"slices"
	"testing"

	"loop.example/g00701/impl"
)

func TestP7RightEdits(t *testing.T) {
	for _, e := range rightEdits() {
		if !editOKByTheRule(e) || !impl.EditOK(e) {
			t.Errorf("EditOK(%v) is false", e)
		}
	}
	wrong := 0
	for _, e := range wrongEdits() {
		if impl.EditOK(e) != editOKByTheRule(e) {
			t.Errorf("EditOK(%v) is %v", e, impl.EditOK(e))
		}
		if !editOKByTheRule(e) {
			wrong++
		}
	}
	if wrong < 150 {
		t.Error("too few wrong edits:", wrong)
	}
	numbers := []int{-1, 0, 1, 8, 9, 12, 13, 20, 21, 99, 100, 999999, 1000000}
	for kind := -1; kind <= 11; kind++ {
		for _, a := range numbers {
			for _, b := range numbers {
				for _, length := range []int{0, 1, 20, 21} {
					e := impl.Edit{Kind: kind, Node: 1, A: a, B: b, Text: zeros(length)}
					if impl.EditOK(e) != editOKByTheRule(e) {
						t.Errorf("EditOK(%v) is %v", e, impl.EditOK(e))
					}
				}
			}
		}
	}
}

func edit(kind, node int, numbers ...int) impl.Edit {
	e := impl.Edit{Kind: kind, Node: node}
	if len(numbers) > 0 {
		e.A = numbers[0]
	}
	if len(numbers) > 1 {
		e.B = numbers[1]
	}
	return e
}

// TestP7EditsOfEachKind tells what each edit turns in the demo document; the others are as they were.
func TestP7EditsOfEachKind(t *testing.T) {
	for i, v := range []struct {
		e    impl.Edit
		turn func(*impl.Doc)
	}{
		{edit(impl.EdInsert, 5, 4, 1), func(d *impl.Doc) {
			d.Next = 11
			d.Nodes[4].Kids = []int{6, 10, 7}
			*d = with(*d, impl.Node{Id: 10, Kind: 4})
		}},
		{edit(impl.EdInsert, 9, 8, 0), func(d *impl.Doc) { d.Next = 11; d.Nodes[8].Kids = []int{10}; *d = with(*d, impl.Node{Id: 10, Kind: 8}) }},
		{edit(impl.EdInsert, 1, 1, 3), func(d *impl.Doc) {
			d.Next = 11
			d.Nodes[0].Kids = []int{2, 3, 5, 10}
			*d = with(*d, impl.Node{Id: 10, Kind: 1})
		}},
		{edit(impl.EdDelete, 7), func(d *impl.Doc) { d.Nodes = d.Nodes[:6]; d.Nodes[4].Kids = []int{6} }},
		{edit(impl.EdDelete, 2), func(d *impl.Doc) { d.Nodes = slices.Delete(d.Nodes, 1, 2); d.Nodes[0].Kids = []int{3, 5} }},
		{impl.Edit{Kind: impl.EdText, Node: 1, Text: "\x00 x"}, func(d *impl.Doc) { d.Nodes[0].Text = "\x00 x" }},
		{impl.Edit{Kind: impl.EdText, Node: 9}, func(d *impl.Doc) { d.Nodes[8].Text = "" }},
		{edit(impl.EdAttr, 1, 99), func(d *impl.Doc) { d.Nodes[0].Attr = 99 }},
		{edit(impl.EdAttr, 9, 0), func(d *impl.Doc) { d.Nodes[8].Attr = 0 }},
		{edit(impl.EdMove, 7, 1, 1), func(d *impl.Doc) { d.Nodes[0].Kids, d.Nodes[4].Kids = []int{2, 7, 3, 5}, []int{6} }},
		{edit(impl.EdMove, 2, 1, 2), func(d *impl.Doc) { d.Nodes[0].Kids = []int{3, 5, 2} }},
		{edit(impl.EdMove, 2, 1, 0), func(d *impl.Doc) {}},
		{edit(impl.EdMove, 3, 8, 1), func(d *impl.Doc) { d.Nodes[0].Kids, d.Nodes[7].Kids = []int{2, 5}, []int{9, 3} }},
		{edit(impl.EdWrap, 7, 2), func(d *impl.Doc) {
			d.Next = 11
			d.Nodes[4].Kids = []int{6, 10}
			*d = with(*d, impl.Node{Id: 10, Kind: 2, Kids: []int{7}})
		}},
		{edit(impl.EdLift, 5), func(d *impl.Doc) { d.Nodes[0].Kids = []int{2, 3, 6, 7}; d.Nodes = slices.Delete(d.Nodes, 4, 5) }},
		{edit(impl.EdLift, 2), func(d *impl.Doc) { d.Nodes[0].Kids = []int{3, 5}; d.Nodes = slices.Delete(d.Nodes, 1, 2) }},
		{edit(impl.EdSplit, 5, 1), func(d *impl.Doc) {
			d.Next = 11
			d.Nodes[0].Kids = []int{2, 3, 5, 10}
			d.Nodes[4].Kids = []int{6}
			*d = with(*d, impl.Node{Id: 10, Kind: 2, Kids: []int{7}})
		}},
		{edit(impl.EdSplit, 5, 0), func(d *impl.Doc) {
			d.Next = 11
			d.Nodes[0].Kids = []int{2, 3, 5, 10}
			d.Nodes[4].Kids = nil
			*d = with(*d, impl.Node{Id: 10, Kind: 2, Kids: []int{6, 7}})
		}},
		{edit(impl.EdSplit, 9, 2), func(d *impl.Doc) {
			d.Next = 11
			d.Nodes[7].Kids = []int{9, 10}
			d.Nodes[8].Text = "po"
			*d = with(*d, impl.Node{Id: 10, Kind: 3, Attr: 7, Text: "int"})
		}},
		{edit(impl.EdSplit, 2, 5), func(d *impl.Doc) {
			d.Next = 11
			d.Nodes[0].Kids = []int{2, 10, 3, 5}
			*d = with(*d, impl.Node{Id: 10, Kind: 3})
		}},
		{edit(impl.EdJoin, 3), func(d *impl.Doc) {
			d.Nodes[0].Kids = []int{2, 3}
			d.Nodes[2].Kids = []int{4, 6, 7}
			d.Nodes = slices.Delete(d.Nodes, 4, 5)
		}},
	} {
		want := turned(demoDoc(), v.turn)
		if got, code := applyByTheRule(demoDoc(), v.e); code != impl.OK || !alike(got, want) {
			t.Fatalf("%d: by the rule it is %v, %d", i, got, code)
		}
		if got, code := impl.ApplyEdit(demoDoc(), v.e); code != impl.OK || !alike(got, want) {
			t.Errorf("%d: ApplyEdit(%v) = %v, %d; want %v", i, v.e, got, code, want)
		}
	}
}

func with(d impl.Doc, n impl.Node) impl.Doc {
	d.Nodes = append(d.Nodes, n)
	return d
}

// TestP7EditsThatAreRefused: the codes in their order, and the document as it was.
func TestP7EditsThatAreRefused(t *testing.T) {
	joined := turned(fanDoc(3), func(d *impl.Doc) { d.Nodes[1].Text, d.Nodes[2].Text, d.Nodes[3].Kind = zeros(20), "x", 4 })
	for i, v := range []struct {
		d    impl.Doc
		e    impl.Edit
		code int
	}{
		{demoDoc(), edit(impl.EdDelete, 10), impl.ErrNone}, {demoDoc(), edit(impl.EdInsert, 77, 1), impl.ErrNone}, {demoDoc(), edit(impl.EdMove, 77, 88), impl.ErrNone},
		{demoDoc(), edit(impl.EdDelete, 1), impl.ErrRoot}, {demoDoc(), edit(impl.EdMove, 1, 77, 12), impl.ErrRoot}, {demoDoc(), edit(impl.EdWrap, 1, 1), impl.ErrRoot}, {demoDoc(), edit(impl.EdLift, 1), impl.ErrRoot},
		{demoDoc(), edit(impl.EdSplit, 1, 20), impl.ErrRoot}, {demoDoc(), edit(impl.EdJoin, 1), impl.ErrRoot}, {chainDoc(1), edit(impl.EdDelete, 1), impl.ErrRoot}, {demoDoc(), edit(impl.EdAttr, 1, 5), impl.OK},
		{demoDoc(), edit(impl.EdInsert, 1, 1, 4), impl.ErrRange}, {demoDoc(), edit(impl.EdInsert, 9, 1, 1), impl.ErrRange}, {late(chainDoc(6)), edit(impl.EdInsert, 6, 1, 1), impl.ErrRange},
		{demoDoc(), edit(impl.EdMove, 5, 77, 12), impl.ErrNone}, {demoDoc(), edit(impl.EdMove, 5, 5, 12), impl.ErrOrder}, {demoDoc(), edit(impl.EdMove, 5, 9, 12), impl.ErrOrder},
		{demoDoc(), edit(impl.EdMove, 2, 1, 3), impl.ErrRange}, {demoDoc(), edit(impl.EdMove, 4, 1, 4), impl.ErrRange}, {demoDoc(), edit(impl.EdMove, 4, 1, 3), impl.OK},
		{demoDoc(), edit(impl.EdSplit, 5, 3), impl.ErrRange}, {demoDoc(), edit(impl.EdSplit, 5, 2), impl.OK}, {demoDoc(), edit(impl.EdSplit, 9, 6), impl.ErrRange}, {demoDoc(), edit(impl.EdSplit, 9, 5), impl.OK},
		{demoDoc(), edit(impl.EdJoin, 5), impl.ErrNone}, {demoDoc(), edit(impl.EdJoin, 9), impl.ErrNone}, {demoDoc(), edit(impl.EdJoin, 2), impl.ErrKind}, {demoDoc(), edit(impl.EdJoin, 3), impl.OK},
		{joined, edit(impl.EdJoin, 2), impl.ErrFull}, {joined, edit(impl.EdJoin, 3), impl.ErrKind}, {joined, edit(impl.EdJoin, 4), impl.ErrNone},
		{bushDoc(39), edit(impl.EdInsert, 30, 1), impl.OK}, {bushDoc(40), edit(impl.EdInsert, 30, 1), impl.ErrFull}, {bushDoc(40), edit(impl.EdWrap, 2, 1), impl.ErrFull}, {bushDoc(40), edit(impl.EdSplit, 30), impl.ErrFull},
		{late(demoDoc()), edit(impl.EdInsert, 9, 1), impl.ErrFull}, {late(demoDoc()), edit(impl.EdWrap, 9, 1), impl.ErrFull}, {late(demoDoc()), edit(impl.EdSplit, 9, 1), impl.ErrFull}, {late(demoDoc()), edit(impl.EdMove, 9, 1), impl.OK},
		{fanDoc(11), edit(impl.EdInsert, 1, 1, 11), impl.OK}, {fanDoc(12), edit(impl.EdInsert, 1, 1, 12), impl.ErrFull}, {fanDoc(11), edit(impl.EdSplit, 2), impl.OK}, {fanDoc(12), edit(impl.EdSplit, 2), impl.ErrFull}, {fanDoc(12), edit(impl.EdWrap, 2, 1), impl.OK},
		{bushDoc(14), edit(impl.EdLift, 2), impl.OK}, {bushDoc(15), edit(impl.EdLift, 2), impl.ErrFull}, {bushDoc(14), edit(impl.EdMove, 14, 1, 0), impl.ErrFull}, {fanDoc(12), edit(impl.EdMove, 2, 1, 11), impl.OK}, {fanDoc(12), edit(impl.EdMove, 2, 1, 12), impl.ErrRange},
		{chainDoc(5), edit(impl.EdInsert, 5, 1), impl.OK}, {chainDoc(6), edit(impl.EdInsert, 6, 1), impl.ErrDeep}, {chainDoc(6), edit(impl.EdWrap, 2, 1), impl.ErrDeep}, {chainDoc(5), edit(impl.EdWrap, 2, 1), impl.OK}, {chainDoc(6), edit(impl.EdLift, 2), impl.OK},
		{late(chainDoc(6)), edit(impl.EdWrap, 2, 1), impl.ErrFull}, {demoDoc(), edit(impl.EdMove, 3, 8), impl.OK}, {demoDoc(), edit(impl.EdMove, 3, 9), impl.ErrDeep},
	} {
		want, wanted := applyByTheRule(v.d, v.e)
		if wanted != v.code {
			t.Fatalf("%d: by the rule it is %d", i, wanted)
		}
		got, code := impl.ApplyEdit(v.d, v.e)
		if code != v.code || !alike(got, want) || code != impl.OK && !alike(got, v.d) {
			t.Errorf("%d: ApplyEdit(%v, %v) = %v, %d; want %v, %d", i, v.d, v.e, got, code, want, v.code)
		}
	}
}

func TestP7WrongDocumentsAndEdits(t *testing.T) {
	for _, d := range append(wrongDocs(), demoDoc()) {
		for _, e := range append(wrongEdits(), rightEdits()...) {
			if rightByTheRule(d) && editOKByTheRule(e) {
				continue
			}
			if got, code := impl.ApplyEdit(d, e); code != impl.ErrBad || !alike(got, impl.Doc{}) {
				t.Fatalf("ApplyEdit(%v, %v) = %v, %d", d, e, got, code)
			}
		}
	}
}

func TestP7ThrownEdits(t *testing.T) {
	throw := &dice{89}
	seen := map[[2]int]int{}
	for range 15000 {
		d := thrownDoc(throw, 1+throw.below(40))
		if throw.below(4) == 0 {
			eachNode(&d, func(n *impl.Node) { n.Kind = 1 + n.Kind%2 })
		}
		if throw.below(20) == 0 {
			d.Next = 999999
		}
		e := thrownEdit(throw, d)
		want, wanted := applyByTheRule(d, e)
		got, code := impl.ApplyEdit(d, e)
		if code != wanted || !alike(got, want) {
			t.Fatalf("ApplyEdit(%v, %v) = %v, %d; want %v, %d", d, e, got, code, want, wanted)
		}
		if !impl.DocOK(got) {
			t.Fatalf("ApplyEdit(%v, %v) = %v is not right", d, e, got)
		}
		seen[[2]int{e.Kind, code}]++
	}
	for kind := impl.EdInsert; kind <= impl.EdJoin; kind++ {
		if seen[[2]int{kind, impl.OK}] < 100 || seen[[2]int{kind, impl.ErrNone}] < 10 {
			t.Error("too few of kind", kind, seen)
		}
	}
}

// TestP7EditsThatAreTakenBack: what is split is joined, what is wrapped is lifted, what is inserted is deleted, and what is
// moved away is moved back; only Next is another one.
func TestP7EditsThatAreTakenBack(t *testing.T) {
	throw := &dice{97}
	seen := map[int]int{}
	for range 15000 {
		d := thrownDoc(throw, 1+throw.below(30))
		e := thrownEdit(throw, d)
		back := impl.Edit{Kind: map[int]int{impl.EdInsert: impl.EdDelete, impl.EdWrap: impl.EdLift, impl.EdSplit: impl.EdJoin, impl.EdMove: impl.EdMove}[e.Kind], Node: d.Next}
		turned, code := impl.ApplyEdit(d, e)
		if code != impl.OK || back.Kind == 0 {
			continue
		}
		if e.Kind == impl.EdMove {
			up := parentsByTheRule(d, e.Node)[0]
			n, _ := nodeByTheRule(d, up)
			back.A, back.B = up, slices.Index(n.Kids, e.Node)
		}
		if e.Kind == impl.EdMove || e.Kind == impl.EdSplit {
			back.Node = e.Node
		}
		got, code := impl.ApplyEdit(turned, back)
		got.Next = d.Next
		if code != impl.OK || !alike(got, d) {
			t.Fatalf("%v of %v is not taken back by %v: %v, %d", e, d, back, got, code)
		}
		seen[e.Kind]++
	}
	for _, kind := range []int{impl.EdInsert, impl.EdWrap, impl.EdSplit, impl.EdMove} {
		if seen[kind] < 200 {
			t.Error("too few of kind", kind, seen)
		}
	}
}
