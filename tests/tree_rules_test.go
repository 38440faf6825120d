package tests

import (
	"math"
	"testing"

	"loop.example/g00701/impl"
)

// treeAsks are calls of chapter 3 with documents that are right and with such as are not.
func treeAsks() []ask {
	var list []ask
	add := func(name string, f any, args ...any) { list = append(list, ask{name, f, args}) }
	docs := append(rightDocs(), wrongDocs()...)
	for i, d := range docs {
		add("DocOK", impl.DocOK, d)
		for _, id := range []int{math.MinInt, -1, 0, 1, 2, 5, 9, d.Root, d.Next, math.MaxInt} {
			add("NodeAt", impl.NodeAt, d, id)
			add("ParentOf", impl.ParentOf, d, id)
			add("PathOf", impl.PathOf, d, id)
			add("InOrder", impl.InOrder, d, id)
			add("CopySub", impl.CopySub, d, id)
			add("NewDoc", impl.NewDoc, id)
		}
		for _, other := range []impl.Doc{d, demoDoc(), docs[(i+1)%len(docs)], docs[(i*7+3)%len(docs)]} {
			add("SpliceSub", impl.SpliceSub, d, other)
			add("SpliceSub", impl.SpliceSub, other, d)
			add("SameDoc", impl.SameDoc, d, other)
			add("SameShape", impl.SameShape, d, other)
		}
	}
	throw := &dice{5}
	for range 100 {
		d, sub := pairs(throw, 20)
		add("SpliceSub", impl.SpliceSub, d, sub)
	}
	return list
}

func TestP1RulesOfTrees(t *testing.T) {
	for _, a := range treeAsks() {
		askRules(t, a)
	}
}

func TestP1TreesDoNotHangOnWhatWasCalledAhead(t *testing.T) {
	askOrders(t, treeAsks())
}
