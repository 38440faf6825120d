package tests

import (
	"math"
	"strings"
	"testing"

	"loop.example/g00701/impl"
)

// schemaAsks are calls of chapter 4 with schemas, terms and lines that are right and with such as are not.
func schemaAsks() []ask {
	var list []ask
	add := func(name string, f any, args ...any) { list = append(list, ask{name, f, args}) }
	schemas := append(rightSchemas(), wrongSchemas()...)
	kids := [][]int{nil, {}, {3}, {3, 2, 3, 4}, {5, 5}, {0, -1, math.MaxInt, math.MinInt}, repeated(1, 12), repeated(1, 13), repeated(1, impl.MaxList+1)}
	for i, rules := range schemas {
		add("SchemaOK", impl.SchemaOK, rules)
		add("SchemaLines", impl.SchemaLines, rules)
		for _, name := range []string{"", "doc", "item", "a", "text", strings.Repeat("n", impl.MaxText+1)} {
			add("KindOf", impl.KindOf, rules, name)
		}
		for _, other := range [][]impl.Rule{rules, demoRules(), schemas[(i+1)%len(schemas)]} {
			add("SameSchema", impl.SameSchema, rules, other)
			add("SameSchema", impl.SameSchema, other, rules)
		}
		for _, r := range rules[:min(len(rules), 8)] {
			for _, n := range []int{math.MinInt, -1, 0, 1, 5, 8, 9, math.MaxInt} {
				add("RuleOK", impl.RuleOK, r, n)
			}
			for _, kids := range kids {
				add("MatchKids", impl.MatchKids, r.Terms, kids)
			}
		}
		if schemaByTheRule(rules) {
			add("ReadSchema", impl.ReadSchema, linesByTheRule(rules))
			add("ReadSchema", impl.ReadSchema, widened(&dice{uint64(i)}, linesByTheRule(rules)))
		}
	}
	for _, lines := range wrongLines() {
		add("ReadSchema", impl.ReadSchema, lines)
	}
	for _, lines := range []int{9, impl.MaxList, impl.MaxList + 1} {
		add("ReadSchema", impl.ReadSchema, make([]string, lines))
	}
	add("DemoSchema", impl.DemoSchema)
	return list
}

func TestP1RulesOfSchemas(t *testing.T) {
	for _, a := range schemaAsks() {
		askRules(t, a)
	}
}

func TestP1SchemasDoNotHangOnWhatWasCalledAhead(t *testing.T) {
	askOrders(t, schemaAsks())
}
