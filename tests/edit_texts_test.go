package tests

import (
	"fmt"
	"strings"
	"testing"

	"loop.example/g00701/impl"
)

func TestP7TextsOfEachKind(t *testing.T) {
	for _, v := range []struct {
		e    impl.Edit
		text string
	}{
		{edit(impl.EdInsert, 5, 3, 12), "insert 5 3 12"}, {edit(impl.EdInsert, 999999, 8, 0), "insert 999999 8 0"}, {edit(impl.EdDelete, 1), "delete 1"}, {edit(impl.EdDelete, 10), "delete 10"},
		{impl.Edit{Kind: impl.EdText, Node: 5}, "text 5 -"}, {impl.Edit{Kind: impl.EdText, Node: 5, Text: "-"}, "text 5 2d"}, {impl.Edit{Kind: impl.EdText, Node: 5, Text: " "}, "text 5 20"}, {impl.Edit{Kind: impl.EdText, Node: 5, Text: "\x00\xff\x0a\xa0"}, "text 5 00ff0aa0"},
		{impl.Edit{Kind: impl.EdText, Node: 5, Text: strings.Repeat("\xab", 20)}, "text 5 " + strings.Repeat("ab", 20)}, {impl.Edit{Kind: impl.EdText, Node: 10, Text: "10"}, "text 10 3130"},
		{edit(impl.EdAttr, 5, 0), "attr 5 0"}, {edit(impl.EdAttr, 5, 99), "attr 5 99"}, {edit(impl.EdMove, 5, 1, 0), "move 5 1 0"}, {edit(impl.EdMove, 5, 999999, 12), "move 5 999999 12"}, {edit(impl.EdMove, 5, 5, 5), "move 5 5 5"},
		{edit(impl.EdWrap, 5, 1), "wrap 5 1"}, {edit(impl.EdWrap, 5, 8), "wrap 5 8"}, {edit(impl.EdLift, 5), "lift 5"}, {edit(impl.EdSplit, 5, 0), "split 5 0"}, {edit(impl.EdSplit, 5, 20), "split 5 20"}, {edit(impl.EdJoin, 999999), "join 999999"},
	} {
		if text, code := impl.EditText(v.e); text != v.text || code != impl.OK {
			t.Errorf("EditText(%v) = %q, %d; want %q", v.e, text, code, v.text)
		}
		if e, code := impl.ReadEdit(v.text); e != v.e || code != impl.OK {
			t.Errorf("ReadEdit(%q) = %v, %d; want %v", v.text, e, code, v.e)
		}
	}
}

func TestP7TextsOfWrongEdits(t *testing.T) {
	for _, e := range append(wrongEdits(), rightEdits()...) {
		want, wanted := editTextByTheRule(e)
		if text, code := impl.EditText(e); text != want || code != wanted {
			t.Errorf("EditText(%.300v) = %q, %d; want %q, %d", e, text, code, want, wanted)
		}
	}
}

// bytesOfAllKinds are Texts of each length, and with each byte at each end.
func bytesOfAllKinds() []string {
	var list []string
	for length := range 21 {
		list = append(list, zeros(length), strings.Repeat("\xff", length), strings.Repeat(" ", length), "twenty bytes of text"[:length])
	}
	for b := range 256 {
		list = append(list, string([]byte{byte(b)}), string([]byte{byte(b), 'x'}), string([]byte{'x', byte(b)}))
	}
	return list
}

func TestP7EditsAreReadBack(t *testing.T) {
	throw := &dice{107}
	edits := rightEdits()
	for _, text := range bytesOfAllKinds() {
		edits = append(edits, impl.Edit{Kind: impl.EdText, Node: 5, Text: text})
	}
	for range 3000 {
		e := thrownEdit(throw, bushDoc(40))
		e.Node = 1 + throw.below(999999)
		edits = append(edits, e)
	}
	for _, e := range edits {
		text, code := impl.EditText(e)
		if want, _ := editTextByTheRule(e); code != impl.OK || text != want {
			t.Fatalf("EditText(%v) = %q, %d; want %q", e, text, code, want)
		}
		for _, text := range append(widened(throw, []string{text, text}), text) {
			if back, code := impl.ReadEdit(text); code != impl.OK || back != e {
				t.Fatalf("ReadEdit(%q) = %v, %d; want %v", text, back, code, e)
			}
		}
	}
}

// TestP7BoundsOfTexts reads each number that an edit may have, and those beside its bounds.
func TestP7BoundsOfTexts(t *testing.T) {
	numbers := []int{-1, 0, 1, 8, 9, 12, 13, 20, 21, 99, 100, 999999, 1000000}
	var read tally
	for _, word := range []string{"insert", "delete", "text", "attr", "move", "wrap", "lift", "split", "join"} {
		for _, node := range numbers {
			for _, a := range numbers {
				texts := []string{fmt.Sprint(word, " ", node), fmt.Sprint(word, " ", node, " ", a), fmt.Sprint(word, " ", node, " ", strings.Repeat("61", max(a, 0)%30))}
				for _, b := range numbers {
					texts = append(texts, fmt.Sprint(word, " ", node, " ", a, " ", b))
				}
				for _, text := range texts {
					want, wanted := readEditByTheRule(text)
					e, code := impl.ReadEdit(text)
					if e != want || code != wanted {
						t.Fatalf("ReadEdit(%q) = %v, %d; want %v, %d", text, e, code, want, wanted)
					}
					read.count(code == impl.OK)
				}
			}
		}
	}
	read.askBoth(t)
}

func TestP7WordsOfNoEdit(t *testing.T) {
	for _, text := range wrongTexts() {
		if _, code := readEditByTheRule(text); code != impl.ErrForm {
			t.Fatalf("by the rule it is %d of %.60q", code, text)
		}
		for _, text := range []string{text, " " + text, text + "  ", strings.ReplaceAll(text, " ", "  ")} {
			if e, code := impl.ReadEdit(text); code != impl.ErrForm || e != (impl.Edit{}) {
				t.Errorf("ReadEdit(%.60q) = %v, %d", text, e, code)
			}
		}
	}
}

// TestP7NoOtherByteIsABlank puts each byte between, ahead of and behind the words.
func TestP7NoOtherByteIsABlank(t *testing.T) {
	for b := range 256 {
		piece := string([]byte{byte(b)})
		for _, text := range []string{"delete" + piece + "5", piece + "delete 5", "delete 5" + piece, "delete " + piece + " 5", "text 5 " + piece, "insert 5 1" + piece + "0"} {
			want, wanted := readEditByTheRule(text)
			if e, code := impl.ReadEdit(text); e != want || code != wanted {
				t.Errorf("ReadEdit(%q) = %v, %d; want %v, %d", text, e, code, want, wanted)
			}
		}
	}
}

func TestP7TextsOfAnyLength(t *testing.T) {
	padded := func(text string, length int) []string {
		blanks := strings.Repeat(" ", length-len(text))
		return []string{text + blanks, blanks + text, strings.Replace(text, " ", blanks+" ", 1)}
	}
	for _, text := range padded("move 5 1 0", impl.MaxText) {
		if e, code := impl.ReadEdit(text); len(text) != impl.MaxText || code != impl.OK || e != edit(impl.EdMove, 5, 1, 0) {
			t.Errorf("ReadEdit of %d bytes = %v, %d", len(text), e, code)
		}
	}
	for _, text := range append(padded("move 5 1 0", impl.MaxText+1), zeros(impl.MaxText+1), strings.Repeat(" ", impl.MaxText+1), strings.Repeat("text 5 ", impl.MaxText), "text 5 "+strings.Repeat("6", impl.MaxText)) {
		if e, code := impl.ReadEdit(text); code != impl.ErrLong || e != (impl.Edit{}) {
			t.Errorf("ReadEdit of %d bytes = %v, %d", len(text), e, code)
		}
	}
	for _, text := range []string{strings.Repeat(" ", impl.MaxText), zeros(impl.MaxText), strings.Repeat("5 ", impl.MaxText/2), "text 5 " + strings.Repeat("6", impl.MaxText-7), "text 5 " + strings.Repeat("66", impl.MaxText/2-4), "attr 5 " + strings.Repeat("6", impl.MaxText-7)} {
		if e, code := impl.ReadEdit(text); code != impl.ErrForm || e != (impl.Edit{}) {
			t.Errorf("ReadEdit of %d bytes, %.20q, = %v, %d", len(text), text, e, code)
		}
	}
}

// TestP7TurnedTexts turns bytes of texts, as dice fall: what is read is told in just these words, and what is told is read.
func TestP7TurnedTexts(t *testing.T) {
	throw := &dice{109}
	pieces := []string{" ", "  ", "-", "0", "1", "5", "9", "a", "A", "g", "61", " 0", " -", " 1", "\t", "\n", "+", "insert ", "text", "lift ", ""}
	var seen tally
	for range 60000 {
		text, _ := editTextByTheRule(thrownEdit(throw, bushDoc(12)))
		for range 1 + throw.below(2) {
			from := throw.below(len(text) + 1)
			to := min(len(text), from+throw.below(3))
			text = text[:from] + pieces[throw.below(len(pieces))] + text[to:]
		}
		want, wanted := readEditByTheRule(text)
		e, code := impl.ReadEdit(text)
		if code != wanted || e != want {
			t.Fatalf("ReadEdit(%q) = %v, %d; want %v, %d", text, e, code, want, wanted)
		}
		seen.count(code == impl.OK)
		if code != impl.OK {
			continue
		}
		if told, code := impl.EditText(e); code != impl.OK || told != plainLine(text) {
			t.Fatalf("EditText of what was read of %q = %q, %d", text, told, code)
		}
	}
	seen.askBoth(t)
}
