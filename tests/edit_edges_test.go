package tests

import (
	"slices"
	"strings"
	"testing"

	"loop.example/g00701/impl"
)

// askEdit holds ApplyEdit against the words of the chapter, and its code against what the test says.
func askEdit(t *testing.T, d impl.Doc, e impl.Edit, code int) impl.Doc {
	t.Helper()
	want, wanted := applyByTheRule(d, e)
	if wanted != code {
		t.Fatalf("by the rule %v of %v is %d, not %d", e, d, wanted, code)
	}
	got, gotCode := impl.ApplyEdit(d, e)
	if gotCode != code || !alike(got, want) || code != impl.OK && !alike(got, d) {
		t.Fatalf("ApplyEdit(%v, %v) = %v, %d; want %v, %d", d, e, got, gotCode, want, code)
	}
	return got
}

// familyDoc has a Root with two Kids, 2 and 3, which have so many Kids and such a Text.
func familyDoc(kids, otherKids int, text, otherText string) impl.Doc {
	d := impl.Doc{Root: 1, Next: 4, Nodes: []impl.Node{{Id: 1, Kind: 1, Kids: []int{2, 3}}, {Id: 2, Kind: 4, Attr: 7, Text: text}, {Id: 3, Kind: 4, Attr: 8, Text: otherText}}}
	for range kids {
		deepen(&d, 2, 1)
	}
	for range otherKids {
		deepen(&d, 3, 1)
	}
	return d
}

// codeIf is code where it applies, and OK elsewhere.
func codeIf(applies bool, code int) int {
	if applies {
		return code
	}
	return impl.OK
}

func TestP7MovesWithinOneParent(t *testing.T) {
	for _, kids := range []int{1, 2, 3, 5, 11, 12} {
		d := fanDoc(kids)
		for place, id := range d.Nodes[0].Kids {
			others := slices.Delete(slices.Clone(d.Nodes[0].Kids), place, place+1)
			for b := range 13 {
				got := askEdit(t, d, edit(impl.EdMove, id, 1, b), codeIf(b > len(others), impl.ErrRange))
				if b > len(others) {
					continue
				}
				want := slices.Insert(slices.Clone(others), b, id)
				if !slices.Equal(got.Nodes[0].Kids, want) || got.Next != d.Next || len(got.Nodes) != len(d.Nodes) {
					t.Fatalf("%d moved to place %d of %v: %v", id, b, d.Nodes[0].Kids, got.Nodes[0].Kids)
				}
				if (b == place) != alike(got, d) {
					t.Fatalf("%d moved from place %d to place %d of %v: %v", id, place, b, d.Nodes[0].Kids, got)
				}
				if back := askEdit(t, got, edit(impl.EdMove, id, 1, place), impl.OK); !alike(back, d) {
					t.Fatalf("%d is not moved back: %v", id, back)
				}
			}
		}
	}
}

func TestP7MovesOntoTheNodeAndBelow(t *testing.T) {
	for _, d := range []impl.Doc{demoDoc(), tangledDoc(), chainDoc(6), bushDoc(40)} {
		for _, n := range d.Nodes {
			if n.Id == d.Root {
				continue
			}
			for _, below := range orderByTheRule(d, n.Id) {
				for _, b := range []int{0, 1, 12} {
					askEdit(t, d, edit(impl.EdMove, n.Id, below, b), impl.ErrOrder)
				}
			}
			for _, b := range []int{0, 12} {
				askEdit(t, d, edit(impl.EdMove, n.Id, d.Next, b), impl.ErrNone)
			}
		}
	}
}

// TestP7PlacesOfKids goes through all places of nodes with each number of Kids; 12 of them have no room for one more.
func TestP7PlacesOfKids(t *testing.T) {
	for kids := range 13 {
		inserted, moved := fanDoc(kids), familyDoc(kids, 1, "", "")
		for b := range 13 {
			due := codeIf(kids == 12, impl.ErrFull)
			if b > kids {
				due = impl.ErrRange
			}
			got := askEdit(t, inserted, edit(impl.EdInsert, 1, 5, b), due)
			if due == impl.OK && (got.Nodes[0].Kids[b] != inserted.Next || !alike(got.Nodes[kids+1], impl.Node{Id: kids + 2, Kind: 5})) {
				t.Fatalf("a kid at place %d of %d: %v", b, kids, got)
			}
			got = askEdit(t, moved, edit(impl.EdMove, 4+kids, 2, b), due)
			if due == impl.OK && (got.Nodes[1].Kids[b] != 4+kids || len(got.Nodes[2].Kids) > 0) {
				t.Fatalf("moved to place %d of %d: %v", b, kids, got)
			}
		}
	}
}

func TestP7SplitsAtEachPlace(t *testing.T) {
	for kids := 1; kids <= 12; kids++ {
		for _, text := range []string{"", "twenty bytes of text"} {
			d := familyDoc(kids, 0, text, "")
			for a := range 21 {
				got := askEdit(t, d, edit(impl.EdSplit, 2, a), codeIf(a > kids, impl.ErrRange))
				if a > kids {
					continue
				}
				of, behind := got.Nodes[1], got.Nodes[len(got.Nodes)-1]
				if !slices.Equal(got.Nodes[0].Kids, []int{2, d.Next, 3}) || !slices.Equal(of.Kids, d.Nodes[1].Kids[:a]) || !slices.Equal(behind.Kids, d.Nodes[1].Kids[a:]) {
					t.Fatalf("%d Kids at place %d: %v", kids, a, got)
				}
				if of.Text != text || behind.Text != "" || behind.Kind != 4 || behind.Attr != 7 {
					t.Fatalf("%d Kids at place %d: %v", kids, a, got)
				}
				askBack(t, d, got, edit(impl.EdJoin, 2))
			}
		}
	}
	for length := range 21 {
		d := familyDoc(0, 1, "twenty bytes of text"[:length], "")
		for a := range 21 {
			got := askEdit(t, d, edit(impl.EdSplit, 2, a), codeIf(a > length, impl.ErrRange))
			if a > length {
				continue
			}
			if behind := (impl.Node{Id: 5, Kind: 4, Attr: 7, Text: "twenty bytes of text"[a:length]}); got.Nodes[1].Text != "twenty bytes of text"[:a] || !alike(got.Nodes[4], behind) {
				t.Fatalf("%d bytes at place %d: %v", length, a, got)
			}
			askBack(t, d, got, edit(impl.EdJoin, 2))
		}
	}
}

// askBack asks that an edit takes back what led from d to then; only Next is another one.
func askBack(t *testing.T, d, then impl.Doc, e impl.Edit) {
	t.Helper()
	got := askEdit(t, then, e, impl.OK)
	got.Next = d.Next
	if !impl.SameDoc(got, d) || !alike(got, d) {
		t.Fatalf("%v does not take back what led from %v to %v: %v", e, d, then, got)
	}
}

// TestP7EachKindIsTakenBack does and undoes each kind of edit, or takes it back by one of its own kind.
func TestP7EachKindIsTakenBack(t *testing.T) {
	for _, v := range []struct{ e, back impl.Edit }{
		{edit(impl.EdInsert, 5, 3, 1), edit(impl.EdDelete, 10)}, {edit(impl.EdInsert, 1, 8, 3), edit(impl.EdDelete, 10)}, {edit(impl.EdInsert, 9, 1, 0), edit(impl.EdDelete, 10)},
		{edit(impl.EdInsert, 1, 8, 0), edit(impl.EdLift, 10)}, {edit(impl.EdWrap, 9, 3), edit(impl.EdLift, 10)}, {edit(impl.EdWrap, 5, 1), edit(impl.EdLift, 10)}, {edit(impl.EdWrap, 3, 8), edit(impl.EdLift, 10)},
		{edit(impl.EdSplit, 9, 0), edit(impl.EdJoin, 9)}, {edit(impl.EdSplit, 9, 5), edit(impl.EdJoin, 9)}, {edit(impl.EdSplit, 5, 1), edit(impl.EdJoin, 5)}, {edit(impl.EdSplit, 7, 0), edit(impl.EdJoin, 7)}, {edit(impl.EdSplit, 2, 3), edit(impl.EdJoin, 2)},
		{edit(impl.EdMove, 9, 1, 0), edit(impl.EdMove, 9, 8, 0)}, {edit(impl.EdMove, 3, 8, 1), edit(impl.EdMove, 3, 1, 1)}, {edit(impl.EdMove, 2, 1, 2), edit(impl.EdMove, 2, 1, 0)}, {edit(impl.EdMove, 7, 3, 0), edit(impl.EdMove, 7, 5, 1)},
		{impl.Edit{Kind: impl.EdText, Node: 9, Text: "x"}, impl.Edit{Kind: impl.EdText, Node: 9, Text: "point"}}, {impl.Edit{Kind: impl.EdText, Node: 1, Text: "x"}, impl.Edit{Kind: impl.EdText, Node: 1}},
		{edit(impl.EdAttr, 9, 99), edit(impl.EdAttr, 9, 7)}, {edit(impl.EdAttr, 1, 1), edit(impl.EdAttr, 1, 0)},
	} {
		then := askEdit(t, demoDoc(), v.e, impl.OK)
		if alike(then, demoDoc()) {
			t.Fatalf("%v changes nothing", v.e)
		}
		askBack(t, demoDoc(), then, v.back)
	}
}

func TestP7JoinsAtTheirBounds(t *testing.T) {
	text := "twenty bytes of text"
	for length := range 21 {
		for other := range 21 {
			got := askEdit(t, familyDoc(0, 0, text[:length], text[:other]), edit(impl.EdJoin, 2), codeIf(length+other > 20, impl.ErrFull))
			if length+other <= 20 && !alike(got.Nodes[1], impl.Node{Id: 2, Kind: 4, Attr: 7, Text: text[:length] + text[:other]}) {
				t.Fatalf("%d bytes and %d: %v", length, other, got)
			}
		}
	}
	for kids := range 13 {
		for other := range 13 {
			d := familyDoc(kids, other, text[:10], text[:10])
			got := askEdit(t, d, edit(impl.EdJoin, 2), codeIf(kids+other > 12, impl.ErrFull))
			if kids+other <= 12 && (!slices.Equal(got.Nodes[1].Kids, slices.Concat(d.Nodes[1].Kids, d.Nodes[2].Kids)) || len(got.Nodes) != len(d.Nodes)-1) {
				t.Fatalf("%d Kids and %d: %v", kids, other, got)
			}
			askEdit(t, d, edit(impl.EdJoin, 3), impl.ErrNone)
			d.Nodes[2].Kind = 5
			askEdit(t, d, edit(impl.EdJoin, 2), impl.ErrKind)
		}
	}
	askEdit(t, familyDoc(12, 0, "", text), edit(impl.EdJoin, 2), impl.OK)
	askEdit(t, familyDoc(6, 7, text, ""), edit(impl.EdJoin, 2), impl.ErrFull)
	askEdit(t, familyDoc(1, 1, text, "x"), edit(impl.EdJoin, 2), impl.ErrFull)
	askEdit(t, fanDoc(1), edit(impl.EdJoin, 2), impl.ErrNone)
}

func TestP7LiftsAtTheirBounds(t *testing.T) {
	for beside := range 12 {
		for kids := range 13 {
			d := fanDoc(beside + 1)
			for range kids {
				deepen(&d, 2, 1)
			}
			got := askEdit(t, d, edit(impl.EdLift, 2), codeIf(beside+kids > 12, impl.ErrFull))
			if beside+kids <= 12 && (!slices.Equal(got.Nodes[0].Kids, slices.Concat(d.Nodes[1].Kids, d.Nodes[0].Kids[1:])) || got.Next != d.Next) {
				t.Fatalf("%d Kids beside %d: %v", kids, beside, got)
			}
		}
	}
	// In the midst of the others, and with a Text that goes with it.
	d := turned(fanDoc(3), func(d *impl.Doc) { deepen(d, 3, 1); deepen(d, 3, 1); d.Nodes[2].Text = "gone" })
	if got := askEdit(t, d, edit(impl.EdLift, 3), impl.OK); !slices.Equal(got.Nodes[0].Kids, []int{2, 5, 6, 4}) {
		t.Errorf("lifted: %v", got)
	}
}

// TestP7RootOfEachKind: of kinds 2 and 5 to 9 ErrRoot comes ahead of all but ErrNone of the node itself.
func TestP7RootOfEachKind(t *testing.T) {
	for _, d := range []impl.Doc{demoDoc(), tangledDoc(), chainDoc(1), chainDoc(6), fanDoc(12), bushDoc(40), late(bushDoc(40))} {
		for _, e := range []impl.Edit{
			edit(impl.EdDelete, d.Root), edit(impl.EdMove, d.Root, d.Root, 0), edit(impl.EdMove, d.Root, d.Next, 12), edit(impl.EdMove, d.Root, d.Nodes[len(d.Nodes)-1].Id, 12), edit(impl.EdWrap, d.Root, 1),
			edit(impl.EdLift, d.Root), edit(impl.EdSplit, d.Root, 0), edit(impl.EdSplit, d.Root, 20), edit(impl.EdJoin, d.Root),
		} {
			askEdit(t, d, e, impl.ErrRoot)
			e.Node = d.Next
			askEdit(t, d, e, impl.ErrNone)
		}
		askEdit(t, d, impl.Edit{Kind: impl.EdText, Node: d.Root, Text: "title"}, impl.OK)
		askEdit(t, d, edit(impl.EdAttr, d.Root, 9), impl.OK)
	}
	askEdit(t, demoDoc(), edit(impl.EdInsert, 1, 1, 0), impl.OK)
	askEdit(t, chainDoc(6), edit(impl.EdInsert, 1, 1, 1), impl.OK)
}

// late has the last Next that there is, and so no new node.
func late(d impl.Doc) impl.Doc {
	d.Next = 999999
	return d
}

// deepBush has so many nodes, the first six of which are a chain.
func deepBush(nodes int) impl.Doc {
	d := chainDoc(6)
	for id := 7; id <= nodes; id++ {
		deepen(&d, 1+id%4, 1)
	}
	return d
}

// TestP7BoundsOfDocuments: each bound and one more, and two of them at once.
func TestP7BoundsOfDocuments(t *testing.T) {
	nextToLate := turned(demoDoc(), func(d *impl.Doc) { d.Next = 999998 })
	for _, v := range []struct {
		d    impl.Doc
		e    impl.Edit
		code int
	}{
		{bushDoc(39), edit(impl.EdInsert, 39, 1), impl.OK}, {bushDoc(39), edit(impl.EdWrap, 39, 1), impl.OK}, {bushDoc(39), edit(impl.EdSplit, 39), impl.OK},
		{bushDoc(40), edit(impl.EdInsert, 40, 1), impl.ErrFull}, {bushDoc(40), edit(impl.EdWrap, 40, 1), impl.ErrFull}, {bushDoc(40), edit(impl.EdSplit, 40), impl.ErrFull}, {bushDoc(40), edit(impl.EdMove, 40, 2, 11), impl.ErrFull}, {bushDoc(40), edit(impl.EdMove, 39, 40), impl.OK},
		{nextToLate, edit(impl.EdInsert, 1, 1), impl.OK}, {nextToLate, edit(impl.EdWrap, 9, 1), impl.OK}, {nextToLate, edit(impl.EdSplit, 9), impl.OK},
		{late(demoDoc()), edit(impl.EdInsert, 1, 1), impl.ErrFull}, {late(demoDoc()), edit(impl.EdWrap, 2, 1), impl.ErrFull}, {late(demoDoc()), edit(impl.EdSplit, 2), impl.ErrFull},
		{late(demoDoc()), edit(impl.EdDelete, 2), impl.OK}, {late(demoDoc()), edit(impl.EdLift, 5), impl.OK}, {late(demoDoc()), edit(impl.EdJoin, 3), impl.OK}, {late(demoDoc()), edit(impl.EdMove, 9, 1, 3), impl.OK}, {late(demoDoc()), edit(impl.EdAttr, 9, 1), impl.OK},
		{chainDoc(6), edit(impl.EdInsert, 5, 1), impl.OK}, {chainDoc(5), edit(impl.EdWrap, 5, 1), impl.OK}, {chainDoc(6), edit(impl.EdWrap, 6, 1), impl.ErrDeep}, {chainDoc(6), edit(impl.EdSplit, 6), impl.OK}, {chainDoc(6), edit(impl.EdSplit, 2), impl.OK}, {demoDoc(), edit(impl.EdMove, 2, 9), impl.OK},
		// A place that is out of its bounds comes ahead of all of these, and no room ahead of too deep.
		{deepBush(40), edit(impl.EdInsert, 6, 1, 1), impl.ErrRange}, {late(fanDoc(12)), edit(impl.EdSplit, 2, 1), impl.ErrRange}, {deepBush(40), edit(impl.EdMove, 7, 6, 1), impl.ErrRange}, {fullAndDeep(11), edit(impl.EdMove, 20, 2, 12), impl.ErrRange},
		{deepBush(39), edit(impl.EdInsert, 6, 1), impl.ErrDeep}, {deepBush(40), edit(impl.EdInsert, 6, 1), impl.ErrFull}, {late(chainDoc(6)), edit(impl.EdInsert, 6, 1), impl.ErrFull}, {deepBush(40), edit(impl.EdWrap, 6, 1), impl.ErrFull}, {late(deepBush(40)), edit(impl.EdWrap, 6, 1), impl.ErrFull},
		{deepBush(40), edit(impl.EdMove, 7, 6), impl.ErrDeep}, {fullAndDeep(12), edit(impl.EdMove, 20, 2), impl.ErrFull}, {fullAndDeep(11), edit(impl.EdMove, 20, 2), impl.ErrDeep},
	} {
		askEdit(t, v.d, v.e, v.code)
	}
}

// fullAndDeep has a node 2 with so many Kids, and a branch 20 of five levels, which below 2 would be too deep.
func fullAndDeep(kids int) impl.Doc {
	d := impl.Doc{Root: 1, Next: 3, Nodes: []impl.Node{{Id: 1, Kind: 1, Kids: []int{2}}, {Id: 2, Kind: 1}}}
	for range kids {
		deepen(&d, 2, 1)
	}
	d.Next = 20
	deepen(&d, 1, 5)
	return d
}

// TestP7BoundsOfWhatAKindHas does each edit at its bounds, and refuses it with one more or one less.
func TestP7BoundsOfWhatAKindHas(t *testing.T) {
	for _, v := range []struct {
		e    impl.Edit
		code int
	}{
		{edit(impl.EdInsert, 2, 0), impl.ErrBad}, {edit(impl.EdInsert, 2, 1), impl.OK}, {edit(impl.EdInsert, 2, 8), impl.OK}, {edit(impl.EdInsert, 2, 9), impl.ErrBad},
		{edit(impl.EdInsert, 2, 1, -1), impl.ErrBad}, {edit(impl.EdInsert, 2, 1, 1), impl.ErrRange}, {edit(impl.EdInsert, 2, 1, 12), impl.ErrRange}, {edit(impl.EdInsert, 2, 1, 13), impl.ErrBad},
		{impl.Edit{Kind: impl.EdText, Node: 2, Text: zeros(20)}, impl.OK}, {impl.Edit{Kind: impl.EdText, Node: 2, Text: zeros(21)}, impl.ErrBad}, {impl.Edit{Kind: impl.EdText, Node: 2, Text: strings.Repeat("x", impl.MaxText+1)}, impl.ErrBad},
		{edit(impl.EdAttr, 2, -1), impl.ErrBad}, {edit(impl.EdAttr, 2, 0), impl.OK}, {edit(impl.EdAttr, 2, 99), impl.OK}, {edit(impl.EdAttr, 2, 100), impl.ErrBad},
		{edit(impl.EdMove, 2, 0), impl.ErrBad}, {edit(impl.EdMove, 2, 1), impl.OK}, {edit(impl.EdMove, 2, 999999), impl.ErrNone}, {edit(impl.EdMove, 2, 1000000), impl.ErrBad},
		{edit(impl.EdMove, 2, 1, -1), impl.ErrBad}, {edit(impl.EdMove, 2, 1, 12), impl.ErrRange}, {edit(impl.EdMove, 2, 1, 13), impl.ErrBad},
		{edit(impl.EdWrap, 2, 0), impl.ErrBad}, {edit(impl.EdWrap, 2, 1), impl.OK}, {edit(impl.EdWrap, 2, 8), impl.OK}, {edit(impl.EdWrap, 2, 9), impl.ErrBad},
		{edit(impl.EdSplit, 2, -1), impl.ErrBad}, {edit(impl.EdSplit, 2, 0), impl.OK}, {edit(impl.EdSplit, 2, 20), impl.ErrRange}, {edit(impl.EdSplit, 2, 21), impl.ErrBad},
		{edit(impl.EdDelete, 0), impl.ErrBad}, {edit(impl.EdDelete, 999999), impl.ErrNone}, {edit(impl.EdDelete, 1000000), impl.ErrBad}, {edit(impl.EdDelete, 2, 1), impl.ErrBad}, {edit(impl.EdLift, 2, 0, 1), impl.ErrBad}, {impl.Edit{Kind: impl.EdJoin, Node: 2, Text: "x"}, impl.ErrBad},
		{edit(0, 2), impl.ErrBad}, {edit(10, 2), impl.ErrBad}, {edit(-1, 2), impl.ErrBad},
	} {
		got, code := impl.ApplyEdit(demoDoc(), v.e)
		if code != v.code || code == impl.ErrBad && !alike(got, impl.Doc{}) {
			t.Errorf("ApplyEdit(%.100v) = %v, %d; want %d", v.e, got, code, v.code)
		}
	}
}
