package tests

import (
	"math"
	"slices"
	"strings"
	"testing"

	"loop.example/g00701/impl"
)

// editAsks are calls of chapter 7 with documents, edits and texts that are right and with such as are not.
func editAsks() []ask {
	var list []ask
	add := func(name string, f any, args ...any) { list = append(list, ask{name, f, args}) }
	edits := append(rightEdits(), wrongEdits()...)
	for _, e := range edits {
		add("EditOK", impl.EditOK, e)
		add("EditText", impl.EditText, e)
		add("ApplyEdit", impl.ApplyEdit, demoDoc(), e)
		add("ApplyEdits", impl.ApplyEdits, demoDoc(), []impl.Edit{e})
		add("ApplyEdits", impl.ApplyEdits, demoDoc(), []impl.Edit{{Kind: impl.EdText, Node: 2, Text: "other"}, e})
	}
	throw := &dice{101}
	for i, d := range append(rightDocs(), wrongDocs()...) {
		add("ApplyEdit", impl.ApplyEdit, d, edits[i%len(edits)])
		add("ApplyEdit", impl.ApplyEdit, d, edit(impl.EdText, math.MaxInt))
		add("ApplyEdits", impl.ApplyEdits, d, []impl.Edit(nil))
		add("ApplyEdits", impl.ApplyEdits, d, []impl.Edit{})
		add("ApplyEdits", impl.ApplyEdits, d, edits[i:i+3])
		add("ApplyEdits", impl.ApplyEdits, d, make([]impl.Edit, impl.MaxList+1))
		for range 10 {
			if rightByTheRule(d) {
				add("ApplyEdit", impl.ApplyEdit, d, thrownEdit(throw, d))
				add("ApplyEdits", impl.ApplyEdits, d, thrownEdits(throw, d, 1+throw.below(5)))
			}
		}
	}
	add("ApplyEdits", impl.ApplyEdits, demoDoc(), slices.Repeat([]impl.Edit{{Kind: impl.EdText, Node: 9, Text: "again"}}, 100))
	for _, text := range slices.Concat(rightTexts(), wrongTexts()) {
		add("ReadEdit", impl.ReadEdit, text)
	}
	for _, length := range []int{impl.MaxText, impl.MaxText + 1} {
		for _, text := range []string{"lift 5", "text 5 616", "text 5 6162"} {
			add("ReadEdit", impl.ReadEdit, text+strings.Repeat(" ", length-len(text)))
			add("ReadEdit", impl.ReadEdit, text+strings.Repeat("0", length-len(text)))
		}
	}
	return list
}

func TestP1RulesOfEdits(t *testing.T) {
	for _, a := range editAsks() {
		askRules(t, a)
	}
}

func TestP1EditsDoNotHangOnWhatWasCalledAhead(t *testing.T) {
	askOrders(t, editAsks())
}

// TestP1AnEditedDocumentWrittenIntoChangesNoOther writes into each list of an answer and behind it, with and without a code.
func TestP1AnEditedDocumentWrittenIntoChangesNoOther(t *testing.T) {
	for _, e := range []impl.Edit{edit(impl.EdSplit, 5, 1), edit(impl.EdJoin, 3), edit(impl.EdLift, 5), edit(impl.EdMove, 2, 1, 2), edit(impl.EdDelete, 1), edit(impl.EdWrap, 77, 1)} {
		d := demoDoc()
		want, wanted := applyByTheRule(d, e)
		one, _ := impl.ApplyEdit(d, e)
		other, _, _ := impl.ApplyEdits(d, []impl.Edit{e})
		for _, got := range []impl.Doc{one, other} {
			for i := range got.Nodes {
				for j := range got.Nodes[i].Kids {
					got.Nodes[i].Kids[j] = 77
				}
				_ = append(got.Nodes[i].Kids, 88)
				if !alike(got.Nodes[i+1:], want.Nodes[i+1:]) {
					t.Fatalf("%v: the Kids of node %d share memory with later ones", e, got.Nodes[i].Id)
				}
			}
		}
		if again, code := impl.ApplyEdit(d, e); !alike(d, demoDoc()) || code != wanted || !alike(again, want) {
			t.Errorf("ApplyEdit(%v), when its answers were written into, = %v, %d", e, again, code)
		}
	}
}

// TestP1NoEditsAreNewMemoryToo: rule 3 holds where the answer is the document as it was.
func TestP1NoEditsAreNewMemoryToo(t *testing.T) {
	for _, list := range [][]impl.Edit{nil, {}, {edit(impl.EdDelete, 1)}} {
		d := demoDoc()
		got, _, _ := impl.ApplyEdits(d, list)
		if !alike(got, d) {
			t.Fatalf("ApplyEdits(%v) = %v", list, got)
		}
		got.Nodes[0].Kids[0], got.Nodes[8].Text = 77, "turned"
		if !alike(d, demoDoc()) {
			t.Errorf("ApplyEdits(%v) answers the memory of its argument", list)
		}
	}
}
