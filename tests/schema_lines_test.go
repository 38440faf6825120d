package tests

import (
	"slices"
	"strings"
	"testing"

	"loop.example/g00701/impl"
)

// widened has the words of each line, with blanks thrown between, ahead and behind.
func widened(throw *dice, lines []string) []string {
	var out []string
	for _, line := range lines {
		wide := strings.Repeat(" ", throw.below(3))
		for i, word := range strings.Split(line, " ") {
			if i > 0 {
				wide += strings.Repeat(" ", 1+throw.below(3))
			}
			wide += word
		}
		out = append(out, wide+strings.Repeat(" ", throw.below(3)))
	}
	return out
}

func TestP4SchemasAreReadBack(t *testing.T) {
	throw := &dice{23}
	list := rightSchemas()
	for range 2000 {
		list = append(list, thrownRules(throw))
	}
	for _, list := range list {
		lines, code := impl.SchemaLines(list)
		if code != impl.OK || !slices.Equal(lines, linesByTheRule(list)) {
			t.Fatalf("SchemaLines(%+v) = %q, %d", list, lines, code)
		}
		for _, lines := range [][]string{lines, widened(throw, lines)} {
			back, code := impl.ReadSchema(lines)
			if code != impl.OK || !alike(back, list) || !impl.SameSchema(back, list) {
				t.Fatalf("ReadSchema(%q) = %+v, %d; want %+v", lines, back, code, list)
			}
		}
	}
}

func TestP4LinesOfTheDemoSchema(t *testing.T) {
	if lines, code := impl.SchemaLines(demoRules()); code != impl.OK || !slices.Equal(lines, demoLines()) {
		t.Errorf("SchemaLines = %q, %d", lines, code)
	}
	if list, code := impl.ReadSchema(demoLines()); code != impl.OK || !alike(list, demoRules()) {
		t.Errorf("ReadSchema = %+v, %d", list, code)
	}
}

func TestP4LinesOfEachKind(t *testing.T) {
	for _, v := range []struct {
		lines []string
		list  []impl.Rule
	}{
		{[]string{"a:"}, []impl.Rule{{Name: "a"}}},
		{[]string{"a: text"}, []impl.Rule{{Name: "a", Leaf: true}}},
		{[]string{"a: a"}, []impl.Rule{{Name: "a", Terms: []impl.Term{term(0, 1)}}}},
		{[]string{"a: b? b", "b: a* b+ a|b a|b*"}, []impl.Rule{
			{Name: "a", Terms: []impl.Term{term(1, 2), term(0, 2)}},
			{Name: "b", Terms: []impl.Term{term(2, 1), term(3, 2), term(0, 1, 2), term(2, 1, 2)}},
		}},
		{[]string{"twelve_bytes: _? _", "_: twelve_bytes|_+"}, []impl.Rule{
			{Name: "twelve_bytes", Terms: []impl.Term{term(1, 2), term(0, 2)}},
			{Name: "_", Terms: []impl.Term{term(3, 1, 2)}},
		}},
		{[]string{"Text: texts", "texts: text"}, []impl.Rule{
			{Name: "Text", Terms: []impl.Term{term(0, 2)}},
			{Name: "texts", Leaf: true},
		}},
	} {
		if lines, code := impl.SchemaLines(v.list); code != impl.OK || !slices.Equal(lines, v.lines) {
			t.Errorf("SchemaLines(%+v) = %q, %d; want %q", v.list, lines, code, v.lines)
		}
		if list, code := impl.ReadSchema(v.lines); code != impl.OK || !alike(list, v.list) {
			t.Errorf("ReadSchema(%q) = %+v, %d; want %+v", v.lines, list, code, v.list)
		}
	}
}

// wrongLines have a line of the rule b behind that of a, but for what is wrong.
func wrongLines() [][]string {
	var list [][]string
	for _, line := range []string{
		// No words, no name, no end of the name, its end elsewhere.
		"", " ", "    ", ":", " : ", ": text", ": a", "b", "b text", "b a", "b : a", "b :", "b: :", "b:: a", ":b a", "b:a", "b:text", "b a:", "b a: b", "b; a", "b, a",
		"b: a:", "b: :a", "text", "text:", "text: a", "text: text",
		// Names that are none, or that no rule has, or that another one has.
		"9: a", "thirteen_byte: a", "b-c: a", "b|c: a", "b?: a", "b+: text", "\xff: a", "a: text", "a:", "b: c", "b: A", "b: aa", "b: a c", "b: a|c", "b: c|a", "b: thirteen_byte",
		// text beside terms, twice, with a mark, among Kinds.
		"b: text a", "b: a text", "b: text text", "b: text text text", "b: text?", "b: text*", "b: text+", "b: text|a", "b: a|text", "b: a text a", "b: texts", "b: Text", "b: tex t",
		// Terms with no name at some place.
		"b: |", "b: |a", "b: a|", "b: a||b", "b: |a|b", "b: a|b|", "b: ||", "b: a| b", "b: a |b", "b: a | b", "b: |*", "b: a|*", "b: |a*",
		// Kinds in another order, or twice.
		"b: b|a", "b: a|a", "b: b|b", "b: a|b|b", "b: a|b|a", "b: b|a*", "b: a|a?",
		// Other marks, two of them, or one elsewhere or alone.
		"b: a!", "b: a.", "b: a-", "b: a1", "b: a?*", "b: a**", "b: a??", "b: a++", "b: a+?", "b: ?", "b: *", "b: +", "b: ?a", "b: *a", "b: +a", "b: a ?", "b: a *", "b: a? *", "b: a?|b", "b: a*|b+", "b: a|b?*",
		"b: a'", "b: {a}", "b: (a|b)*",
		// Five terms and more.
		"b: a a a a a", "b: a? b* a|b+ a b", "b: a a a a text", "b: a a a a a c", "b:" + strings.Repeat(" a", 5000),
		// Bytes beside the blank that part no words.
		"b:\ta", "b: a\tb", "b: a\n", "\tb: a", "b: a\r", "b: a\x00", "b:\u00a0a", "b: a\v",
		// Very long ones.
		"b: " + strings.Repeat("a|", 5000) + "a", "b: " + strings.Repeat("a", 70000), strings.Repeat("b", 70000) + ":", strings.Repeat(" ", 70000), "b: a" + strings.Repeat("*", 70000),
	} {
		list = append(list, []string{"a: text", line}, []string{"a: text", line, "c1:"}, []string{"c1: a", "a: text", line})
	}
	return append(list, nil, []string{}, []string{""}, []string{"a"}, []string{"a: b"}, []string{"a: text", "a: text"}, make([]string, 8))
}

func TestP4LinesOfNoSchema(t *testing.T) {
	for _, lines := range wrongLines() {
		if _, code := readByTheRule(lines); code != impl.ErrForm {
			t.Fatalf("by the rule it is %d of %.60q", code, lines)
		}
		if list, code := impl.ReadSchema(lines); code != impl.ErrForm || len(list) > 0 {
			t.Errorf("ReadSchema(%.60q) = %+v, %d", lines, list, code)
		}
	}
}

func TestP4NumbersOfLines(t *testing.T) {
	eight := linesByTheRule(greatRules())
	for i, v := range []struct {
		lines []string
		code  int
	}{
		{nil, impl.ErrForm}, {eight[:7], impl.ErrForm}, {eight, impl.OK}, {linesByTheRule(plainRules(8)), impl.OK}, {linesByTheRule(plainRules(1)), impl.OK},
		{make([]string, 8), impl.ErrForm}, {make([]string, 9), impl.ErrMany}, {linesByTheRule(plainRules(9)), impl.ErrMany}, {append(eight, "c: text"), impl.ErrMany},
		{linesByTheRule(plainRules(impl.MaxList)), impl.ErrMany}, {make([]string, impl.MaxList), impl.ErrMany},
		{linesByTheRule(plainRules(impl.MaxList + 1)), impl.ErrLong}, {make([]string, impl.MaxList+1), impl.ErrLong}, {make([]string, 100000), impl.ErrLong},
	} {
		if list, code := impl.ReadSchema(v.lines); code != v.code || (len(list) > 0) != (code == impl.OK) {
			t.Errorf("%d: ReadSchema = %d rules, %d; want code %d", i, len(list), code, v.code)
		}
	}
}

// TestP4LinesAreOfAnyLength: MaxText bounds arguments of their own, not the texts of a list (rule 8).
func TestP4LinesAreOfAnyLength(t *testing.T) {
	blanks := strings.Repeat(" ", impl.MaxText)
	lines := demoLines()
	lines[0] = blanks + "doc:" + blanks + "par? sect|par|list*" + blanks
	lines[2] = "par: " + blanks + "text"
	if list, code := impl.ReadSchema(lines); code != impl.OK || !alike(list, demoRules()) {
		t.Errorf("ReadSchema = %+v, %d", list, code)
	}
	if list, code := impl.ReadSchema([]string{"b:" + blanks}); code != impl.OK || !alike(list, []impl.Rule{{Name: "b"}}) {
		t.Errorf("ReadSchema = %+v, %d", list, code)
	}
}

// TestP4TurnedLines turns bytes of lines, as dice fall: what is read is told in just these words, and what is told is read.
func TestP4TurnedLines(t *testing.T) {
	throw := &dice{31}
	pieces := []string{" ", ":", "|", "?", "*", "+", "a", "b", "text", " text", " a", " a|b", "|b", "\t", "9", ""}
	var seen tally
	for range 40000 {
		lines := linesByTheRule(thrownRules(throw))
		if throw.below(2) == 0 {
			lines = []string{"a: b* a", "b: text", "c: a|b? c+"}
		}
		at := throw.below(len(lines))
		for range 1 + throw.below(2) {
			from := throw.below(len(lines[at]) + 1)
			to := min(len(lines[at]), from+throw.below(3))
			lines[at] = lines[at][:from] + pieces[throw.below(len(pieces))] + lines[at][to:]
		}
		want, wantCode := readByTheRule(lines)
		list, code := impl.ReadSchema(lines)
		if code != wantCode || !alike(list, want) {
			t.Fatalf("ReadSchema(%q) = %+v, %d; want %+v, %d", lines, list, code, want, wantCode)
		}
		seen.count(code == impl.OK)
		if code != impl.OK {
			continue
		}
		told, code := impl.SchemaLines(list)
		for i := range lines {
			if code != impl.OK || told[i] != plainLine(lines[i]) {
				t.Fatalf("SchemaLines of what was read of %q = %q, %d", lines, told, code)
			}
		}
	}
	seen.askBoth(t)
}
