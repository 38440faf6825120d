package tests

import (
	"slices"
	"testing"

	"loop.example/g00701/impl"
)

// askEdits holds ApplyEdits against the edits done one by one by the words of the chapter.
func askEdits(t *testing.T, d impl.Doc, list []impl.Edit) (int, int) {
	t.Helper()
	want, wantDone, wantCode := applyAllByTheRule(d, list)
	got, done, code := impl.ApplyEdits(d, list)
	if done != wantDone || code != wantCode || !alike(got, want) {
		t.Fatalf("ApplyEdits(%v, %.300v) = %v, %d, %d; want %v, %d, %d", d, list, got, done, code, want, wantDone, wantCode)
	}
	return done, code
}

func TestP7ListsOfEdits(t *testing.T) {
	none, root := edit(impl.EdLift, 77), edit(impl.EdDelete, 1)
	text, attr, gone := impl.Edit{Kind: impl.EdText, Node: 2, Text: "a"}, edit(impl.EdAttr, 4, 5), edit(impl.EdDelete, 5)
	for i, v := range []struct {
		list       []impl.Edit
		done, code int
	}{
		{nil, 0, impl.OK}, {[]impl.Edit{}, 0, impl.OK},
		{[]impl.Edit{text}, 1, impl.OK}, {[]impl.Edit{none}, 0, impl.ErrNone}, {[]impl.Edit{root}, 0, impl.ErrRoot},
		{[]impl.Edit{text, attr, gone}, 3, impl.OK}, {[]impl.Edit{text, text, text}, 3, impl.OK},
		{[]impl.Edit{none, text, attr}, 0, impl.ErrNone}, {[]impl.Edit{text, root, attr}, 1, impl.ErrRoot}, {[]impl.Edit{text, attr, none}, 2, impl.ErrNone},
		{[]impl.Edit{none, root}, 0, impl.ErrNone}, {[]impl.Edit{root, none}, 0, impl.ErrRoot},
		// What an edit led to is what the next one finds.
		{[]impl.Edit{gone, edit(impl.EdAttr, 9, 1), text}, 1, impl.ErrNone}, {[]impl.Edit{gone, gone}, 1, impl.ErrNone},
		{[]impl.Edit{edit(impl.EdInsert, 1, 4, 3), edit(impl.EdInsert, 10, 5, 0), edit(impl.EdMove, 9, 11, 0), edit(impl.EdAttr, 12, 1)}, 3, impl.ErrNone},
		{[]impl.Edit{edit(impl.EdSplit, 9, 2), edit(impl.EdJoin, 9), edit(impl.EdJoin, 9)}, 2, impl.ErrNone},
		{[]impl.Edit{edit(impl.EdWrap, 9, 3), edit(impl.EdWrap, 9, 3)}, 1, impl.ErrDeep},
		{[]impl.Edit{edit(impl.EdMove, 9, 1, 0), edit(impl.EdMove, 8, 9, 0), edit(impl.EdMove, 9, 8, 0)}, 2, impl.ErrOrder},
		{slices.Repeat([]impl.Edit{edit(impl.EdInsert, 1, 3, 0)}, 10), 9, impl.ErrFull},
		{[]impl.Edit{text, edit(impl.EdInsert, 9, 1, 1)}, 1, impl.ErrRange}, {[]impl.Edit{text, edit(impl.EdJoin, 2)}, 1, impl.ErrKind},
	} {
		if done, code := askEdits(t, demoDoc(), v.list); done != v.done || code != v.code {
			t.Errorf("%d: ApplyEdits does %d, and the code is %d; want %d, %d", i, done, code, v.done, v.code)
		}
	}
}

// TestP7TheDocumentThen tells out what two edits of three leave.
func TestP7TheDocumentThen(t *testing.T) {
	list := []impl.Edit{edit(impl.EdDelete, 7), {Kind: impl.EdText, Node: 2, Text: "a"}, edit(impl.EdAttr, 9, 1), edit(impl.EdAttr, 1, 1)}
	want := turned(demoDoc(), func(d *impl.Doc) {
		d.Nodes = d.Nodes[:6]
		d.Nodes[4].Kids = []int{6}
		d.Nodes[1].Text = "a"
	})
	if got, done, code := impl.ApplyEdits(demoDoc(), list); done != 2 || code != impl.ErrNone || !alike(got, want) {
		t.Errorf("ApplyEdits = %v, %d, %d; want %v", got, done, code, want)
	}
}

func TestP7ThrownLists(t *testing.T) {
	throw := &dice{103}
	var whole tally
	for range 4000 {
		d := thrownDoc(throw, 1+throw.below(40))
		list := thrownEdits(throw, d, throw.below(8))
		done, code := askEdits(t, d, list)
		whole.count(code == impl.OK)
		if got, _, _ := impl.ApplyEdits(d, list); !impl.DocOK(got) || (code == impl.OK) != (done == len(list)) {
			t.Fatalf("ApplyEdits(%v, %v) does %d, and the code is %d", d, list, done, code)
		}
	}
	whole.askBoth(t)
}

// TestP7WrongLists: each edit is looked at ahead of doing any, and nothing stands beside ErrBad.
func TestP7WrongLists(t *testing.T) {
	right, refused := edit(impl.EdAttr, 2, 1), edit(impl.EdDelete, 1)
	for _, wrong := range wrongEdits() {
		if editOKByTheRule(wrong) {
			continue
		}
		for _, list := range [][]impl.Edit{{wrong}, {wrong, right}, {right, wrong}, {right, wrong, right}, {refused, wrong}, {wrong, refused}, {right, right, refused, right, wrong}} {
			if _, code := askEdits(t, demoDoc(), list); code != impl.ErrBad {
				t.Fatalf("ApplyEdits(%v) = %d", list, code)
			}
		}
	}
	for _, d := range wrongDocs() {
		for _, list := range [][]impl.Edit{nil, {}, {right}, {refused}, {right, {}}, {{}}, make([]impl.Edit, impl.MaxList)} {
			if _, code := askEdits(t, d, list); code != impl.ErrBad {
				t.Fatalf("ApplyEdits(%v, %.300v) = %d", d, list, code)
			}
		}
	}
}

func TestP7LongListsOfEdits(t *testing.T) {
	right, refused := edit(impl.EdAttr, 2, 1), edit(impl.EdDelete, 1)
	most := slices.Repeat([]impl.Edit{right}, impl.MaxList)
	ending := func(e impl.Edit) []impl.Edit { return append(slices.Clone(most[1:]), e) }
	late := impl.Edit{Kind: impl.EdText, Node: 2, Text: "last"}
	wrongDoc := impl.Doc{}
	for i, v := range []struct {
		d          impl.Doc
		list       []impl.Edit
		done, code int
	}{
		{demoDoc(), most, impl.MaxList, impl.OK}, {demoDoc(), ending(late), impl.MaxList, impl.OK}, {demoDoc(), ending(refused), impl.MaxList - 1, impl.ErrRoot},
		{demoDoc(), ending(impl.Edit{}), 0, impl.ErrBad}, {wrongDoc, most, 0, impl.ErrBad},
		{demoDoc(), append(slices.Clone(most), right), 0, impl.ErrLong}, {demoDoc(), append(slices.Clone(most), impl.Edit{}), 0, impl.ErrLong},
		{demoDoc(), append([]impl.Edit{refused}, most...), 0, impl.ErrLong}, {demoDoc(), append([]impl.Edit{{}}, most...), 0, impl.ErrLong},
		{wrongDoc, append(slices.Clone(most), right), 0, impl.ErrLong}, {wrongDoc, make([]impl.Edit, impl.MaxList+1), 0, impl.ErrLong}, {demoDoc(), make([]impl.Edit, 100000), 0, impl.ErrLong},
	} {
		if done, code := askEdits(t, v.d, v.list); done != v.done || code != v.code {
			t.Errorf("%d: ApplyEdits of %d edits does %d, and the code is %d; want %d, %d", i, len(v.list), done, code, v.done, v.code)
		}
	}
}
