package tests

import (
	"math"
	"testing"

	"loop.example/g00701/impl"
)

// validAsks are calls of chapter 6 with schemas and documents that are right and with such as are not.
func validAsks(t *testing.T) []ask {
	var list []ask
	add := func(name string, f any, args ...any) { list = append(list, ask{name, f, args}) }
	docs := append(rightDocs(), wrongDocs()...)
	schemas := append(rightSchemas(), wrongSchemas()...)
	schemas = append(schemas, rulesOf(t, fullLines()...), rulesOf(t, deepLines()...), rulesOf(t, "a: b", "b: c+", "c: a a a a"))
	for _, d := range docs {
		for _, id := range []int{math.MinInt, -1, 0, 1, 9, d.Root, d.Next, math.MaxInt} {
			add("KidsOf", impl.KidsOf, d, id)
		}
	}
	for i, rules := range schemas {
		for _, kind := range []int{math.MinInt, -1, 0, 1, 2, 3, 4, 5, 6, 7, 8, 9, math.MaxInt} {
			add("LeastDoc", impl.LeastDoc, rules, kind)
		}
		if len(rules) > 100 {
			add("CheckDoc", impl.CheckDoc, rules, demoDoc())
			add("CheckNode", impl.CheckNode, rules, demoDoc(), 1)
			add("MayInsert", impl.MayInsert, rules, demoDoc(), 1)
			continue
		}
		for _, d := range []impl.Doc{demoDoc(), tangledDoc(), fanDoc(11), fanDoc(12), docs[i%len(docs)], docs[(i*7+3)%len(docs)]} {
			add("CheckDoc", impl.CheckDoc, rules, d)
			for _, id := range []int{math.MinInt, 0, 1, 3, d.Root, d.Next, math.MaxInt} {
				add("CheckNode", impl.CheckNode, rules, d, id)
				add("MayInsert", impl.MayInsert, rules, d, id)
			}
		}
	}
	for _, d := range docs {
		add("CheckDoc", impl.CheckDoc, demoRules(), d)
	}
	return list
}

func TestP1RulesOfWhatASchemaTakes(t *testing.T) {
	for _, a := range validAsks(t) {
		askRules(t, a)
	}
}

func TestP1WhatASchemaTakesDoesNotHangOnWhatWasCalledAhead(t *testing.T) {
	askOrders(t, validAsks(t))
}

// TestP1ALeastDocumentWrittenIntoChangesNoOther writes into each list of Kids of an answer, and behind it.
func TestP1ALeastDocumentWrittenIntoChangesNoOther(t *testing.T) {
	rules := rulesOf(t, fullLines()...)
	want, _ := leastByTheRule(rules, 1)
	d, _ := impl.LeastDoc(rules, 1)
	for i := range d.Nodes {
		for j := range d.Nodes[i].Kids {
			d.Nodes[i].Kids[j] = 77
		}
		_ = append(d.Nodes[i].Kids, 88)
		if !alike(d.Nodes[i+1:], want.Nodes[i+1:]) {
			t.Fatalf("the Kids of node %d share memory with later ones", i+1)
		}
	}
	if again, code := impl.LeastDoc(rules, 1); code != impl.OK || !alike(again, want) {
		t.Errorf("LeastDoc, when an answer was written into, = %v, %d", again, code)
	}
}
