package tests

import (
	"fmt"
	"math"
	"regexp"
	"slices"
	"strings"

	"loop.example/g00701/impl"
)

func term(many int, kinds ...int) impl.Term {
	return impl.Term{Kinds: kinds, Many: many}
}

func demoLines() []string {
	return []string{
		"doc: par? sect|par|list*", "sect: par sect|par|list*", "par: text", "list: item+", "item: par|list*",
	}
}

// demoRules is the schema of demoLines, written out.
func demoRules() []impl.Rule {
	return []impl.Rule{
		{Name: "doc", Terms: []impl.Term{term(1, 3), term(2, 2, 3, 4)}},
		{Name: "sect", Terms: []impl.Term{term(0, 3), term(2, 2, 3, 4)}},
		{Name: "par", Leaf: true},
		{Name: "list", Terms: []impl.Term{term(3, 5)}},
		{Name: "item", Terms: []impl.Term{term(2, 3, 4)}},
	}
}

// greatRules is a schema that has as much of everything as there may be.
func greatRules() []impl.Rule {
	var list []impl.Rule
	for kind := 1; kind <= 8; kind++ {
		r := impl.Rule{Name: fmt.Sprint("Twelve_byte", kind)}
		for many := range 4 {
			r.Terms = append(r.Terms, term(many, 1, 2, 3, 4, 5, 6, 7, 8))
		}
		list = append(list, r)
	}
	return list
}

// plainRules is a schema of so many rules without Terms.
func plainRules(rules int) []impl.Rule {
	list := make([]impl.Rule, rules)
	for i := range list {
		list[i].Name = fmt.Sprint("n", i)
	}
	return list
}

func cloneRules(list []impl.Rule) []impl.Rule {
	list = slices.Clone(list)
	for i := range list {
		list[i].Terms = slices.Clone(list[i].Terms)
		for j := range list[i].Terms {
			list[i].Terms[j].Kinds = slices.Clone(list[i].Terms[j].Kinds)
		}
	}
	return list
}

func turnedRules(turn func([]impl.Rule)) []impl.Rule {
	list := cloneRules(demoRules())
	turn(list)
	return list
}

func thrownTerm(throw *dice, rules int) impl.Term {
	t := impl.Term{Many: throw.below(4)}
	for kind := 1; kind <= rules; kind++ {
		if throw.below(3) == 0 {
			t.Kinds = append(t.Kinds, kind)
		}
	}
	if t.Kinds == nil {
		t.Kinds = []int{1 + throw.below(rules)}
	}
	return t
}

func thrownTerms(throw *dice, rules int) []impl.Term {
	var terms []impl.Term
	for range throw.below(5) {
		terms = append(terms, thrownTerm(throw, rules))
	}
	return terms
}

// thrownRules is a right schema as dice fall.
func thrownRules(throw *dice) []impl.Rule {
	names := []string{"a", "b", "A", "_", "text_", "Text", "x9", "twelve_bytes", "_0", "item", "tex", "ab"}
	list := make([]impl.Rule, 1+throw.below(8))
	for i := range list {
		at := throw.below(len(names))
		list[i].Name = names[at]
		names = slices.Delete(slices.Clone(names), at, at+1)
		list[i].Leaf = throw.below(4) == 0
		if !list[i].Leaf {
			list[i].Terms = thrownTerms(throw, len(list))
		}
	}
	return list
}

func rightSchemas() [][]impl.Rule {
	list := [][]impl.Rule{
		demoRules(), greatRules(), plainRules(1), plainRules(2), plainRules(8),
		{{Name: "a", Leaf: true}}, {{Name: "a", Leaf: true, Terms: []impl.Term{}}}, {{Name: "a", Terms: []impl.Term{}}},
		{{Name: "a", Terms: []impl.Term{term(0, 1)}}}, {{Name: "_"}, {Name: "twelve_bytes"}},
		{{Name: "Text"}, {Name: "texts"}, {Name: "tex"}, {Name: "TEXT", Leaf: true}},
		{{Name: "a"}, {Name: "A"}, {Name: "a0", Terms: []impl.Term{term(0, 1, 2, 3), term(1, 3), term(2, 1, 3), term(3, 2)}}},
	}
	throw := &dice{17}
	for range 30 {
		list = append(list, thrownRules(throw))
	}
	return list
}

type schemaTurn struct {
	what string
	make func([]impl.Rule)
}

// wrongSchemaTurns make a schema of the demo schema that is not right.
func wrongSchemaTurns() []schemaTurn {
	name := func(name string) func([]impl.Rule) { return func(l []impl.Rule) { l[4].Name = name } }
	kinds := func(kinds ...int) func([]impl.Rule) { return func(l []impl.Rule) { l[4].Terms[0].Kinds = kinds } }
	many := func(many int) func([]impl.Rule) { return func(l []impl.Rule) { l[0].Terms[1].Many = many } }
	return []schemaTurn{
		{"no name", name("")},
		{"a name of 13 bytes", name("thirteen_byte")},
		{"a very long name", name(strings.Repeat("n", impl.MaxText+1))},
		{"a name with a digit ahead", name("9a")},
		{"a name with a blank", name("a b")},
		{"a name with the divider of kinds", name("a|b")},
		{"a name with its end", name("a:")},
		{"a name with a mark", name("item+")},
		{"a name of another letter", name("\xc3\xa4")},
		{"the name text", name("text")},
		{"a Leaf of the name text", func(l []impl.Rule) { l[2].Name = "text" }},
		{"the first name again", name("doc")},
		{"the name ahead again", name("list")},
		{"a Leaf's name again", func(l []impl.Rule) { l[0].Name = "par" }},
		{"a Leaf with a term", func(l []impl.Rule) { l[2].Terms = []impl.Term{term(0, 1)} }},
		{"a Leaf with a term that is none", func(l []impl.Rule) { l[2].Terms = []impl.Term{{}} }},
		{"a Leaf with five Terms", func(l []impl.Rule) { l[2].Terms = make([]impl.Term, 5) }},
		{"five Terms", func(l []impl.Rule) { l[3].Terms = slices.Repeat([]impl.Term{term(0, 1)}, 5) }},
		{"very many Terms", func(l []impl.Rule) { l[3].Terms = slices.Repeat([]impl.Term{term(0, 1)}, 5000) }},
		{"a term without Kinds", kinds()},
		{"Kind 0", kinds(0)},
		{"Kind 0 ahead", kinds(0, 1)},
		{"a Kind below 0", kinds(-1)},
		{"a Kind of no rule", kinds(6)},
		{"a Kind of no rule behind others", kinds(1, 2, 6)},
		{"Kind 8 of five rules", kinds(1, 8)},
		{"Kind 9", kinds(9)},
		{"a very large Kind", kinds(math.MaxInt)},
		{"a very small Kind", kinds(math.MinInt)},
		{"Kinds about the ends of numbers", kinds(math.MaxInt, math.MinInt)},
		{"Kinds alike", kinds(3, 3)},
		{"the last Kinds alike", kinds(1, 2, 5, 5)},
		{"Kinds that fall", kinds(4, 3)},
		{"Kinds that rise and fall", kinds(1, 4, 2)},
		{"very many Kinds", kinds(make([]int, 5000)...)},
		{"very many Kinds that rise at first", kinds(slices.Concat([]int{1, 2, 3, 4, 5}, make([]int, 5000))...)},
		{"Many below 0", many(-1)},
		{"Many 4", many(4)},
		{"a very large Many", many(math.MaxInt)},
		{"a very small Many", many(math.MinInt)},
		{"a wrong first term", func(l []impl.Rule) { l[0].Terms[0] = impl.Term{} }},
	}
}

// wrongSchemas breaks each sentence of chapter 4, and hands in what no program would.
func wrongSchemas() [][]impl.Rule {
	list := [][]impl.Rule{
		nil, {}, {{}}, {{Leaf: true}}, plainRules(9), plainRules(100), plainRules(impl.MaxList), plainRules(impl.MaxList + 1),
		append(greatRules(), impl.Rule{Name: "ninth"}), make([]impl.Rule, 8), make([]impl.Rule, impl.MaxList+1),
		{{Name: "a"}, {Name: "a"}}, {{Name: "a", Terms: []impl.Term{term(0, 2)}}},
	}
	for _, w := range wrongSchemaTurns() {
		list = append(list, turnedRules(w.make))
	}
	return list
}

// The same things by the words of chapter 4, slowly.

func termByTheRule(t impl.Term, rules int) bool {
	for i, kind := range t.Kinds {
		if kind < 1 || kind > rules || i > 0 && kind <= t.Kinds[i-1] {
			return false
		}
	}
	return len(t.Kinds) >= 1 && (t.Many == 0 || t.Many == 1 || t.Many == 2 || t.Many == 3)
}

var nameForm = regexp.MustCompile(`^[a-zA-Z_][a-zA-Z_0-9]{0,11}$`)

func ruleByTheRule(r impl.Rule, rules int) bool {
	if rules < 1 || rules > 8 || !nameForm.MatchString(r.Name) || r.Name == "text" {
		return false
	}
	if r.Leaf && len(r.Terms) > 0 || len(r.Terms) > 4 {
		return false
	}
	for _, t := range r.Terms {
		if !termByTheRule(t, rules) {
			return false
		}
	}
	return true
}

func schemaByTheRule(list []impl.Rule) bool {
	if len(list) < 1 || len(list) > 8 {
		return false
	}
	for i, r := range list {
		if !ruleByTheRule(r, len(list)) {
			return false
		}
		for _, other := range list[i+1:] {
			if other.Name == r.Name {
				return false
			}
		}
	}
	return true
}

// takesByTheRule: a term takes a whole stretch.
func takesByTheRule(t impl.Term, stretch []int) bool {
	for _, kid := range stretch {
		if !slices.Contains(t.Kinds, kid) {
			return false
		}
	}
	switch t.Many {
	case 0:
		return len(stretch) == 1
	case 1:
		return len(stretch) <= 1
	case 3:
		return len(stretch) >= 1
	}
	return true
}

// matchByTheRule tries all stretches of the first term, and the others with what is left.
func matchByTheRule(terms []impl.Term, kids []int) bool {
	if len(terms) == 0 {
		return len(kids) == 0
	}
	for n := 0; n <= len(kids); n++ {
		if takesByTheRule(terms[0], kids[:n]) && matchByTheRule(terms[1:], kids[n:]) {
			return true
		}
	}
	return false
}

func linesByTheRule(list []impl.Rule) []string {
	var lines []string
	for _, r := range list {
		line := r.Name + ":"
		if r.Leaf {
			line += " text"
		}
		for _, t := range r.Terms {
			for i, kind := range t.Kinds {
				line += " |"[min(i, 1):min(i, 1)+1] + list[kind-1].Name
			}
			line += []string{"", "?", "*", "+"}[t.Many]
		}
		lines = append(lines, line)
	}
	return lines
}

func wordsByTheRule(line string) []string {
	var words []string
	for _, piece := range strings.Split(line, " ") {
		if piece != "" {
			words = append(words, piece)
		}
	}
	return words
}

// plainLine has the words of a line with one blank between.
func plainLine(line string) string {
	return strings.Join(wordsByTheRule(line), " ")
}

var lineForm = regexp.MustCompile(`^([^ :]+):( text|( [^ ?*+]+[?*+]?){0,4})$`)
var termForm = regexp.MustCompile(` ([^ ?*+]+)([?*+]?)`)

// readByTheRule reads lines by patterns; what is read must be a schema, and be told in the words of the lines.
func readByTheRule(lines []string) ([]impl.Rule, int) {
	if len(lines) > 8 {
		return nil, impl.ErrMany
	}
	kinds := map[string]int{}
	for i, line := range lines {
		if m := lineForm.FindStringSubmatch(plainLine(line)); m != nil {
			kinds[m[1]] = i + 1
		}
	}
	var list []impl.Rule
	for _, line := range lines {
		m := lineForm.FindStringSubmatch(plainLine(line))
		if m == nil {
			return nil, impl.ErrForm
		}
		r := impl.Rule{Name: m[1], Leaf: m[2] == " text"}
		if !r.Leaf {
			for _, m := range termForm.FindAllStringSubmatch(m[2], -1) {
				t := impl.Term{Many: map[string]int{"": 0, "?": 1, "*": 2, "+": 3}[m[2]]}
				for _, name := range strings.Split(m[1], "|") {
					t.Kinds = append(t.Kinds, kinds[name])
				}
				r.Terms = append(r.Terms, t)
			}
		}
		list = append(list, r)
	}
	if !schemaByTheRule(list) {
		return nil, impl.ErrForm
	}
	for i, line := range linesByTheRule(list) {
		if line != plainLine(lines[i]) {
			return nil, impl.ErrForm
		}
	}
	return list, impl.OK
}
