package tests

import (
	"math"
	"slices"
	"strings"
	"testing"

	"loop.example/g00701/impl"
)

func TestP4TheDemoSchema(t *testing.T) {
	list := impl.DemoSchema()
	if !alike(list, demoRules()) || !impl.SchemaOK(list) {
		t.Errorf("DemoSchema = %+v", list)
	}
	list[0].Name = "turned"
	list[0].Terms[0].Kinds[0] = 7
	list[1].Terms[1] = impl.Term{}
	if again := impl.DemoSchema(); !alike(again, demoRules()) {
		t.Errorf("DemoSchema, when an answer was written into, = %+v", again)
	}
	if impl.MaxTerms != 4 {
		t.Error("MaxTerms", impl.MaxTerms)
	}
}

func TestP4RightSchemas(t *testing.T) {
	for i, list := range rightSchemas() {
		if !schemaByTheRule(list) {
			t.Fatal("the rule says that this is not right", i, list)
		}
		if !impl.SchemaOK(list) {
			t.Errorf("SchemaOK is false of %d: %+v", i, list)
		}
		for _, r := range list {
			if !impl.RuleOK(r, len(list)) || !impl.RuleOK(r, 8) {
				t.Errorf("RuleOK is false of %+v", r)
			}
		}
	}
}

func TestP4SchemasThatAreNotRight(t *testing.T) {
	for _, w := range wrongSchemaTurns() {
		list := turnedRules(w.make)
		if schemaByTheRule(list) {
			t.Fatal("the rule says that this is right:", w.what)
		}
		askAllCallsForBadSchema(t, w.what, list)
	}
	for _, list := range wrongSchemas() {
		askAllCallsForBadSchema(t, "another schema", list)
	}
}

// askAllCallsForBadSchema asks with names that are there and with such as are not: ErrBad comes ahead of ErrNone.
func askAllCallsForBadSchema(t *testing.T, what string, list []impl.Rule) {
	t.Helper()
	bad := impl.ErrBad
	if len(list) > impl.MaxList {
		bad = impl.ErrLong
	}
	if impl.SchemaOK(list) {
		t.Errorf("%s: SchemaOK", what)
	}
	if impl.SameSchema(list, list) || impl.SameSchema(list, demoRules()) || impl.SameSchema(demoRules(), list) {
		t.Errorf("%s: SameSchema", what)
	}
	if lines, code := impl.SchemaLines(list); code != bad || len(lines) > 0 {
		t.Errorf("%s: SchemaLines = %q, %d", what, lines, code)
	}
	for _, name := range []string{"doc", "par", "item", "n0", "text", "", "a", "nobody", strings.Repeat("n", impl.MaxText)} {
		if kind, code := impl.KindOf(list, name); code != bad || kind != 0 {
			t.Errorf("%s: KindOf(%.20q) = %d, %d", what, name, kind, code)
		}
	}
}

func TestP4NumbersOfRules(t *testing.T) {
	for rules, right := range map[int]bool{
		0: false, 1: true, 2: true, 7: true, 8: true, 9: false, 10: false, impl.MaxList: false, impl.MaxList + 1: false,
	} {
		if impl.SchemaOK(plainRules(rules)) != right {
			t.Errorf("SchemaOK of %d rules is %v", rules, !right)
		}
	}
	// The ninth rule does not make a kind of 9.
	nine := plainRules(9)
	nine[0].Terms = []impl.Term{term(0, 9)}
	if impl.SchemaOK(nine) || impl.SchemaOK(nine[:8]) {
		t.Error("SchemaOK of kind 9")
	}
}

func TestP4RulesAtTheirEdges(t *testing.T) {
	with := func(terms ...impl.Term) impl.Rule { return impl.Rule{Name: "a", Terms: terms} }
	leaf := func(terms ...impl.Term) impl.Rule { return impl.Rule{Name: "a", Leaf: true, Terms: terms} }
	named := func(name string) impl.Rule { return impl.Rule{Name: name} }
	one := term(0, 1)
	for i, v := range []struct {
		r     impl.Rule
		rules int
		right bool
	}{
		{with(), 0, false}, {with(), 1, true}, {with(), 8, true}, {with(), 9, false}, {with(), -1, false},
		{with(), math.MaxInt, false}, {with(), math.MinInt, false}, {with(), 1<<32 + 1, false},
		{leaf(), 0, false}, {leaf(), 1, true}, {leaf(), 8, true}, {leaf(), 9, false},
		{leaf(one), 1, false}, {leaf(one, one), 8, false}, {leaf(impl.Term{}), 1, false},
		{with(one), 0, false}, {with(one), 1, true}, {with(one, one, one, one), 1, true}, {with(one, one, one, one, one), 8, false},
		{with(term(0)), 8, false}, {with(term(0, 0)), 8, false}, {with(term(0, -1)), 8, false}, {with(term(0, 8)), 8, true},
		{with(term(0, 8)), 7, false}, {with(term(0, 9)), 8, false}, {with(term(0, 9)), 9, false}, {with(term(0, 2)), 1, false},
		{with(term(0, 1, 2)), 2, true}, {with(term(0, 2, 1)), 2, false}, {with(term(0, 1, 1)), 2, false}, {with(term(0, 1, 3, 2)), 8, false},
		{with(term(0, 1, 2, 3, 4, 5, 6, 7, 8)), 8, true}, {with(term(0, 1, 2, 3, 4, 5, 6, 7, 8, 8)), 8, false},
		{with(term(0, 1, 2, 3, 4, 5, 6, 7, 8, 9)), 8, false}, {with(term(0, 1, 2, 3, 4, 5, 6, 7, 8, 9)), 9, false},
		{with(term(-1, 1)), 8, false}, {with(term(0, 1)), 8, true}, {with(term(1, 1)), 8, true}, {with(term(2, 1)), 8, true},
		{with(term(3, 1)), 8, true}, {with(term(4, 1)), 8, false}, {with(term(math.MinInt, 1)), 8, false}, {with(term(math.MaxInt, 1)), 8, false},
		{with(one, one, one, term(0)), 8, false}, {with(term(4, 1), one, one, one), 8, false},
		{named(""), 1, false}, {named("n"), 1, true}, {named("twelve_bytes"), 1, true}, {named("thirteen_byte"), 1, false},
		{named("text"), 1, false}, {named("Text"), 1, true}, {named("tex"), 1, true}, {named("texts"), 1, true}, {named("text "), 1, false},
		{named("0"), 1, false}, {named("_"), 1, true}, {named("a0"), 1, true}, {named("a-b"), 1, false}, {named("\x00"), 1, false},
		{impl.Rule{Name: "text", Leaf: true}, 1, false}, {impl.Rule{}, 1, false}, {impl.Rule{Leaf: true}, 1, false},
	} {
		if ruleByTheRule(v.r, v.rules) != v.right {
			t.Fatalf("%d: by the rule it is %v of %+v", i, !v.right, v.r)
		}
		if impl.RuleOK(v.r, v.rules) != v.right {
			t.Errorf("%d: RuleOK(%+v, %d) is %v", i, v.r, v.rules, !v.right)
		}
	}
}

// TestP4TurnedSchemas turns one thing of right schemas, as dice fall.
func TestP4TurnedSchemas(t *testing.T) {
	throw := &dice{41}
	var seen tally
	for range 20000 {
		list := cloneRules(thrownRules(throw))
		r := &list[throw.below(len(list))]
		switch throw.below(6) {
		case 0:
			r.Name = list[throw.below(len(list))].Name
		case 1:
			r.Leaf = !r.Leaf
		case 2:
			r.Terms = append(r.Terms, thrownTerm(throw, 1+throw.below(9)))
		case 3:
			list = append(list, impl.Rule{Name: []string{"more", "a", "text"}[throw.below(3)]})
		case 4:
			if len(r.Terms) > 0 {
				r.Terms[throw.below(len(r.Terms))].Many = throw.below(8) - 2
			}
		case 5:
			if len(r.Terms) > 0 {
				kinds := r.Terms[throw.below(len(r.Terms))].Kinds
				kinds[throw.below(len(kinds))] = throw.below(11) - 1
			}
		}
		want := schemaByTheRule(list)
		if impl.SchemaOK(list) != want {
			t.Fatalf("SchemaOK is %v of %+v", !want, list)
		}
		seen.count(want)
	}
	seen.askBoth(t)
}

func TestP4KindsByTheirNames(t *testing.T) {
	for _, list := range rightSchemas() {
		for i, r := range list {
			if kind, code := impl.KindOf(list, strings.Clone(r.Name)); kind != i+1 || code != impl.OK {
				t.Errorf("KindOf(%q) = %d, %d; want %d", r.Name, kind, code, i+1)
			}
		}
	}
	others := []string{
		"", "text", "Doc", "do", "docs", " doc", "doc ", "doc:", "par?", "sect|par", "9", "\x00", "nobody",
		strings.Repeat("d", impl.MaxText),
	}
	for _, name := range others {
		if kind, code := impl.KindOf(demoRules(), name); kind != 0 || code != impl.ErrNone {
			t.Errorf("KindOf(%.20q) = %d, %d", name, kind, code)
		}
	}
}

func TestP4LongNamesAndSchemas(t *testing.T) {
	long := strings.Repeat("d", impl.MaxText+1)
	for i, v := range []struct {
		list []impl.Rule
		name string
		code int
	}{
		{demoRules(), long[1:], impl.ErrNone}, {demoRules(), long, impl.ErrLong}, {nil, long[1:], impl.ErrBad}, {nil, long, impl.ErrLong},
		{plainRules(impl.MaxList), "n0", impl.ErrBad}, {plainRules(impl.MaxList + 1), "n0", impl.ErrLong},
		{plainRules(impl.MaxList), long, impl.ErrLong}, {plainRules(impl.MaxList + 1), long, impl.ErrLong},
	} {
		if kind, code := impl.KindOf(v.list, v.name); kind != 0 || code != v.code {
			t.Errorf("%d: KindOf = %d, %d; want code %d", i, kind, code, v.code)
		}
	}
	if lines, code := impl.SchemaLines(plainRules(impl.MaxList)); len(lines) > 0 || code != impl.ErrBad {
		t.Error("SchemaLines of MaxList rules", code)
	}
	if lines, code := impl.SchemaLines(plainRules(impl.MaxList + 1)); len(lines) > 0 || code != impl.ErrLong {
		t.Error("SchemaLines of one more", code)
	}
}

func TestP4AlikeSchemas(t *testing.T) {
	list := rightSchemas()
	for _, a := range list {
		for _, b := range list {
			if got := impl.SameSchema(a, cloneRules(b)); got != alike(a, b) {
				t.Errorf("SameSchema of %+v and %+v is %v", a, b, got)
			}
		}
	}
	for i, turn := range []func([]impl.Rule){
		func(l []impl.Rule) { l[4].Name = "Item" },
		func(l []impl.Rule) { l[3].Name, l[4].Name = l[4].Name, l[3].Name },
		func(l []impl.Rule) { l[2].Leaf = false },
		func(l []impl.Rule) { l[4].Terms = nil },
		func(l []impl.Rule) { l[4].Terms, l[4].Leaf = nil, true },
		func(l []impl.Rule) { l[4].Terms = append(l[4].Terms, term(1, 1)) },
		func(l []impl.Rule) { l[0].Terms = l[0].Terms[:1] },
		func(l []impl.Rule) { slices.Reverse(l[0].Terms) },
		func(l []impl.Rule) { l[4].Terms[0].Many = 3 },
		func(l []impl.Rule) { l[4].Terms[0].Kinds = []int{3} },
		func(l []impl.Rule) { l[4].Terms[0].Kinds = []int{3, 5} },
		func(l []impl.Rule) { l[4].Terms[0].Kinds = []int{3, 4, 5} },
	} {
		other := turnedRules(turn)
		if !schemaByTheRule(other) {
			t.Fatal("the rule says that this is not right", i)
		}
		if impl.SameSchema(demoRules(), other) || impl.SameSchema(other, demoRules()) {
			t.Errorf("%d: SameSchema of %+v", i, other)
		}
	}
	more := append(demoRules(), impl.Rule{Name: "more"})
	if impl.SameSchema(demoRules(), more) || impl.SameSchema(more, demoRules()) || impl.SameSchema(nil, nil) {
		t.Error("SameSchema of other lengths")
	}
	empty := turnedRules(func(l []impl.Rule) { l[2].Terms = []impl.Term{} })
	if !impl.SameSchema(demoRules(), empty) || !impl.SameSchema(empty, demoRules()) {
		t.Error("an empty list of Terms is not nil's like")
	}
}
