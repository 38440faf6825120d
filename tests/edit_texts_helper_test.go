package tests

import (
	"encoding/hex"
	"fmt"
	"strings"

	"loop.example/g00701/impl"
)

// The texts of edits by the words of chapter 7, and a number's text by rule 9.

func editTextByTheRule(e impl.Edit) (string, int) {
	if !editOKByTheRule(e) {
		return "", impl.ErrBad
	}
	digits := hex.EncodeToString([]byte(e.Text))
	if digits == "" {
		digits = "-"
	}
	return map[int]string{
		impl.EdInsert: fmt.Sprintf("insert %d %d %d", e.Node, e.A, e.B),
		impl.EdDelete: fmt.Sprintf("delete %d", e.Node),
		impl.EdText:   fmt.Sprintf("text %d %s", e.Node, digits),
		impl.EdAttr:   fmt.Sprintf("attr %d %d", e.Node, e.A),
		impl.EdMove:   fmt.Sprintf("move %d %d %d", e.Node, e.A, e.B),
		impl.EdWrap:   fmt.Sprintf("wrap %d %d", e.Node, e.A),
		impl.EdLift:   fmt.Sprintf("lift %d", e.Node),
		impl.EdSplit:  fmt.Sprintf("split %d %d", e.Node, e.A),
		impl.EdJoin:   fmt.Sprintf("join %d", e.Node),
	}[e.Kind], impl.OK
}

func numberOfTextByTheRule(t string) (int, bool) {
	digits := strings.TrimPrefix(t, "-")
	if len(digits) < 1 || len(digits) > 18 || len(digits) > 1 && digits[0] == '0' || t == "-0" {
		return 0, false
	}
	n := 0
	for _, b := range []byte(digits) {
		if b < '0' || b > '9' {
			return 0, false
		}
		n = 10*n + int(b-'0')
	}
	if t[0] == '-' {
		n = -n
	}
	return n, true
}

// readEditByTheRule tries each kind: its words must be those of the edit that they would read as.
func readEditByTheRule(t string) (impl.Edit, int) {
	if len(t) > impl.MaxText {
		return impl.Edit{}, impl.ErrLong
	}
	words := wordsByTheRule(t)
	for kind := impl.EdInsert; kind <= impl.EdJoin; kind++ {
		e := impl.Edit{Kind: kind}
		for i, word := range words[min(1, len(words)):] {
			n, _ := numberOfTextByTheRule(word)
			switch i {
			case 0:
				e.Node = n
			case 1:
				if bytes, err := hex.DecodeString(word); kind == impl.EdText && err == nil {
					e.Text = string(bytes)
				} else if kind != impl.EdText {
					e.A = n
				}
			case 2:
				e.B = n
			}
		}
		if text, code := editTextByTheRule(e); code == impl.OK && text == plainLine(t) {
			return e, impl.OK
		}
	}
	return impl.Edit{}, impl.ErrForm
}

func rightTexts() []string {
	var list []string
	for _, e := range rightEdits() {
		text, _ := editTextByTheRule(e)
		list = append(list, text, "  "+strings.ReplaceAll(text, " ", "   ")+" ")
	}
	return list
}

// wrongTexts break each sentence of the chapter on texts of edits, and of rule 9.
func wrongTexts() []string {
	list := []string{
		// No words, or no such one.
		"", " ", "     ", "-", "5", "5 delete", "go 5", "Delete 5", "DELETE 5", "deletes 5", "delet 5", "insertion 5 1 0", "texts 5 -", "\x00", "delete\x00 5", "\xff 5", "0 5", "1 5", "bad 5", "delete5", "delete-5",
		// Words too few.
		"insert", "delete", "text", "attr", "move", "wrap", "lift", "split", "join", "insert 5", "insert 5 1", "text 5", "attr 5", "move 5", "move 5 1", "wrap 5", "split 5", "text -", "text 6162",
		// Words too many.
		"insert 5 1 0 0", "insert 5 1 0 -", "delete 5 0", "delete 5 -", "text 5 61 62", "text 5 - -", "text 5 61 -", "text 5 0 61", "attr 5 1 0", "move 5 1 0 0", "wrap 5 1 0", "wrap 5 1 1", "lift 5 0", "split 5 1 0", "join 5 6", "join 5 join 6", "delete 5 #", "delete 5 ;",
		// Other white space, which parts no words.
		"delete\t5", "delete 5\n", "delete 5\r", "\tdelete 5", "\ndelete 5", "delete\v5", "delete 5\f", "delete\u00a05", "delete 5\x00", "insert 5\t1 0", "text 5\t-", "text 5 61\n", "text 5 \t",
		// HEX of an odd length, of other letters, of capital ones, of too many bytes.
		"text 5 6", "text 5 616", "text 5 6G", "text 5 g6", "text 5 0x61", "text 5 6A", "text 5 A6", "text 5 AB", "text 5 FF", "text 5 --", "text 5 -61", "text 5 61-", "text 5 +6", "text 5 ab:cd", "text 5 \"\"",
		"text 5 " + strings.Repeat("61", 21), "text 5 " + strings.Repeat("6", 39), "text 5 " + strings.Repeat("6", 41), "text 5 " + strings.Repeat("00", 30000),
		// Numbers' texts of edits that are not right.
		"insert 0 1 0", "insert 1000000 1 0", "insert 5 0 0", "insert 5 9 0", "insert 5 1 13", "delete 0", "delete 1000000", "delete -5", "delete -1", "text 0 -", "text 1000000 61", "attr 5 -1", "attr 5 100", "attr 0 1",
		"move 5 0 0", "move 5 1000000 0", "move 5 1 13", "move 0 1 0", "move 5 1 -1", "wrap 5 0", "wrap 5 9", "wrap 0 1", "lift 0", "lift 999999999999999999", "split 5 21", "split 5 -1", "split 0 1", "join 0", "join -999999999999999999",
		"delete 1000000000000000000", "delete 9223372036854775807", "delete 9223372036854775808", "delete 18446744073709551621", "delete 18446744073709551617", "delete -9223372036854775808", "delete 4294967301", "attr 5 18446744073709551616", "attr 5 1" + strings.Repeat("0", 60000),
	}
	// No number's texts, in the place of each number.
	for _, n := range []string{"05", "00", "005", "-0", "-05", "--5", "+5", "+0", "5.", "5.0", "0x5", "5e0", "1_0", "5-", "-", "a", "5a", "a5", "\u0665", "'5'", "5,", ",", "5\x00", "0005", strings.Repeat("0", 18) + "5", strings.Repeat("0", 60000)} {
		list = append(list, "insert "+n+" 1 0", "insert 5 "+n+" 0", "insert 5 1 "+n, "delete "+n, "text "+n+" 61", "attr "+n+" 1", "attr 5 "+n, "move "+n+" 1 0", "move 5 "+n+" 0", "move 5 1 "+n, "wrap 5 "+n, "lift "+n, "split "+n+" 1", "split 5 "+n, "join "+n)
	}
	return list
}
