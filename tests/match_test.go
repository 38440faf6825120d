package tests

import (
	"math"
	"slices"
	"testing"

	"loop.example/g00701/impl"
)

func repeated(kid, times int) []int {
	return slices.Repeat([]int{kid}, times)
}

func TestP4KidsThatTermsTake(t *testing.T) {
	demo := demoRules()
	terms := func(list ...impl.Term) []impl.Term { return list }
	for i, v := range []struct {
		terms []impl.Term
		kids  []int
		match bool
	}{
		{nil, nil, true}, {terms(), []int{}, true}, {nil, []int{1}, false}, {nil, []int{0}, false},
		// Each Many with no kid, one, two, and one of another kind.
		{terms(term(0, 1)), nil, false}, {terms(term(0, 1)), []int{1}, true}, {terms(term(0, 1)), []int{1, 1}, false}, {terms(term(0, 1)), []int{2}, false},
		{terms(term(1, 1)), nil, true}, {terms(term(1, 1)), []int{1}, true}, {terms(term(1, 1)), []int{1, 1}, false}, {terms(term(1, 1)), []int{2}, false},
		{terms(term(2, 1)), nil, true}, {terms(term(2, 1)), []int{1}, true}, {terms(term(2, 1)), []int{1, 1}, true}, {terms(term(2, 1)), []int{1, 2}, false},
		{terms(term(3, 1)), nil, false}, {terms(term(3, 1)), []int{1}, true}, {terms(term(3, 1)), []int{1, 1}, true}, {terms(term(3, 1)), []int{2, 1}, false},
		// Terms that may be empty, one behind the other.
		{terms(term(1, 1), term(1, 2), term(2, 3), term(1, 4)), nil, true},
		{terms(term(1, 1), term(1, 2), term(2, 3), term(1, 4)), []int{4}, true},
		{terms(term(1, 1), term(1, 2), term(2, 3), term(1, 4)), []int{1, 4}, true},
		{terms(term(1, 1), term(1, 2), term(2, 3), term(1, 4)), []int{2, 3, 3, 4}, true},
		{terms(term(1, 1), term(1, 2), term(2, 3), term(1, 4)), []int{2, 1}, false},
		{terms(term(1, 1), term(1, 2), term(2, 3), term(1, 4)), []int{3, 4, 3}, false},
		{terms(term(2, 1), term(2, 2)), []int{2, 2}, true}, {terms(term(2, 1), term(2, 2)), []int{2, 1}, false},
		{terms(term(1, 1), term(1, 1)), []int{1, 1}, true}, {terms(term(1, 1), term(1, 1)), []int{1, 1, 1}, false},
		// Kids that two neighbours could both take: the first has to leave some, or all, or to take just enough.
		{terms(term(2, 1), term(0, 1)), []int{1, 1, 1}, true}, {terms(term(2, 1), term(0, 1)), []int{1}, true}, {terms(term(2, 1), term(0, 1)), nil, false},
		{terms(term(1, 1), term(0, 1)), []int{1}, true}, {terms(term(1, 1), term(0, 1)), []int{1, 1}, true}, {terms(term(1, 1), term(0, 1)), []int{1, 1, 1}, false},
		{terms(term(3, 1), term(3, 1)), []int{1}, false}, {terms(term(3, 1), term(3, 1)), []int{1, 1}, true},
		{terms(term(3, 1), term(3, 1), term(3, 1), term(3, 1)), []int{1, 1, 1}, false},
		{terms(term(3, 1), term(3, 1), term(3, 1), term(3, 1)), repeated(1, 12), true},
		{terms(term(2, 1, 2), term(0, 2), term(2, 2, 3)), []int{1, 2, 2, 3}, true}, {terms(term(2, 1, 2), term(0, 2), term(2, 2, 3)), []int{1, 3}, false},
		{terms(term(1, 1, 2), term(1, 2, 3), term(0, 3)), []int{2, 3}, true}, {terms(term(1, 1, 2), term(1, 2, 3), term(0, 3)), []int{3}, true},
		{terms(term(1, 1, 2), term(1, 2, 3), term(0, 3)), []int{2, 2, 3}, true}, {terms(term(1, 1, 2), term(1, 2, 3), term(0, 3)), []int{3, 2, 3}, false},
		// The rules of the demo schema.
		{demo[0].Terms, nil, true}, {demo[0].Terms, []int{3, 3, 2, 4}, true}, {demo[0].Terms, []int{2, 3, 4}, true}, {demo[0].Terms, []int{3, 5}, false}, {demo[0].Terms, []int{1}, false},
		{demo[1].Terms, nil, false}, {demo[1].Terms, []int{3}, true}, {demo[1].Terms, []int{3, 4, 2}, true}, {demo[1].Terms, []int{4, 3}, false},
		{demo[2].Terms, nil, true}, {demo[2].Terms, []int{3}, false}, {demo[3].Terms, nil, false}, {demo[3].Terms, []int{5, 5}, true}, {demo[3].Terms, []int{5, 4}, false},
		{demo[4].Terms, []int{3, 4, 3}, true}, {demo[4].Terms, []int{3, 5}, false},
		// Kinds that no schema has stand in no term.
		{terms(term(2, 1, 2, 3, 4, 5, 6, 7, 8)), []int{1, 2, 3, 4, 5, 6, 7, 8}, true}, {terms(term(2, 1, 2, 3, 4, 5, 6, 7, 8)), []int{8, 9}, false},
		{terms(term(2, 1, 2, 3, 4, 5, 6, 7, 8)), []int{0}, false}, {terms(term(2, 1, 2, 3, 4, 5, 6, 7, 8)), []int{-1}, false},
		{terms(term(2, 1)), []int{1, math.MaxInt}, false}, {terms(term(2, 1)), []int{math.MinInt, 1}, false}, {terms(term(1, 1)), []int{1<<32 + 1}, false},
		// As many kids as there may be.
		{terms(term(2, 8)), repeated(8, 12), true}, {terms(term(3, 8)), repeated(8, 12), true}, {terms(term(0, 8)), repeated(8, 12), false},
		{terms(term(1, 8), term(2, 8), term(3, 8), term(0, 8)), repeated(8, 12), true}, {nil, repeated(8, 12), false},
	} {
		if matchByTheRule(v.terms, v.kids) != v.match {
			t.Fatalf("%d: by the rule it is %v of %v and %v", i, !v.match, v.terms, v.kids)
		}
		if match, code := impl.MatchKids(v.terms, v.kids); match != v.match || code != impl.OK {
			t.Errorf("%d: MatchKids(%v, %v) = %v, %d", i, v.terms, v.kids, match, code)
		}
	}
}

// allTermLists are all lists of up to so many terms, each of kind 1, kind 2 or both.
func allTermLists(most int) [][]impl.Term {
	var single []impl.Term
	for many := range 4 {
		single = append(single, term(many, 1), term(many, 2), term(many, 1, 2))
	}
	return allLists(single, most)
}

// allLists are all lists of up to so many elements, the shorter ones first.
func allLists[E any](elements []E, most int) [][]E {
	lists := [][]E{nil}
	for from, length := 0, 0; length < most; length++ {
		to := len(lists)
		for _, ahead := range lists[from:to] {
			for _, last := range elements {
				lists = append(lists, append(slices.Clone(ahead), last))
			}
		}
		from = to
	}
	return lists
}

// TestP4AllSmallMatches goes through all lists of up to three terms of kinds 1 and 2, and all of up to four kids.
func TestP4AllSmallMatches(t *testing.T) {
	lists, kids := allTermLists(3), allLists([]int{1, 2, 3}, 4)
	if len(lists) != 1+12+144+1728 || len(kids) != 1+3+9+27+81 {
		t.Fatal("some are not there", len(lists), len(kids))
	}
	for _, terms := range lists {
		for _, kids := range kids {
			if match, code := impl.MatchKids(terms, kids); match != matchByTheRule(terms, kids) || code != impl.OK {
				t.Fatalf("MatchKids(%v, %v) = %v, %d", terms, kids, match, code)
			}
		}
	}
}

// taken are kids that the terms take, stretch by stretch, as dice fall.
func taken(throw *dice, terms []impl.Term) []int {
	var kids []int
	for _, t := range terms {
		least := 0
		if t.Many == 0 || t.Many == 3 {
			least = 1
		}
		n := least
		if t.Many > 0 {
			n = max(least, throw.below([]int{1, 2, 4, 4}[t.Many]))
		}
		for range n {
			kids = append(kids, t.Kinds[throw.below(len(t.Kinds))])
		}
	}
	return kids
}

// unsettled are the kids with some of them turned, and perhaps with more behind them, at most MaxKids.
func unsettled(throw *dice, kids []int) []int {
	kids = slices.Clone(kids)
	for i := range kids {
		if throw.below(4) == 0 {
			kids[i] = 1 + throw.below(8)
		}
	}
	for len(kids) < 12 && throw.below(3) == 0 {
		kids = append(kids, 1+throw.below(8))
	}
	return kids
}

func TestP4TakenStretchByStretch(t *testing.T) {
	throw := &dice{7}
	var seen tally
	for range 20000 {
		terms := thrownTerms(throw, 1+throw.below(8))
		kids := taken(throw, terms)
		if match, code := impl.MatchKids(terms, kids); !match || code != impl.OK {
			t.Fatalf("MatchKids(%v, %v) = %v, %d", terms, kids, match, code)
		}
		kids = unsettled(throw, kids)
		match, code := impl.MatchKids(terms, kids)
		if match != matchByTheRule(terms, kids) || code != impl.OK {
			t.Fatalf("MatchKids(%v, %v) = %v, %d", terms, kids, match, code)
		}
		seen.count(match)
	}
	seen.askBoth(t)
}

func TestP4WrongTermsAndTooManyKids(t *testing.T) {
	fine := term(2, 1)
	for i, v := range []struct {
		terms []impl.Term
		kids  int
		code  int
	}{
		{[]impl.Term{fine}, 12, impl.OK}, {[]impl.Term{fine}, 13, impl.ErrMany}, {nil, 13, impl.ErrMany},
		{[]impl.Term{fine}, impl.MaxList, impl.ErrMany}, {[]impl.Term{fine}, impl.MaxList + 1, impl.ErrLong},
		{[]impl.Term{fine, fine, fine, fine}, 12, impl.OK}, {[]impl.Term{fine, fine, fine, fine, fine}, 0, impl.ErrBad},
		{[]impl.Term{fine, fine, fine, fine, fine}, 13, impl.ErrBad}, {[]impl.Term{fine, fine, fine, fine, fine}, impl.MaxList + 1, impl.ErrLong},
		{slices.Repeat([]impl.Term{fine}, impl.MaxList), 0, impl.ErrBad}, {slices.Repeat([]impl.Term{fine}, impl.MaxList), 13, impl.ErrBad},
		{slices.Repeat([]impl.Term{fine}, impl.MaxList+1), 0, impl.ErrLong}, {slices.Repeat([]impl.Term{fine}, impl.MaxList+1), 13, impl.ErrLong},
		{[]impl.Term{{}}, 0, impl.ErrBad}, {[]impl.Term{{}}, 12, impl.ErrBad}, {[]impl.Term{{}}, 13, impl.ErrBad}, {[]impl.Term{{}}, impl.MaxList, impl.ErrBad},
		{[]impl.Term{{}}, impl.MaxList + 1, impl.ErrLong}, {[]impl.Term{term(2, 8)}, 0, impl.OK}, {[]impl.Term{term(2, 9)}, 0, impl.ErrBad},
		{[]impl.Term{term(2, 0)}, 0, impl.ErrBad}, {[]impl.Term{term(2, 0, 1)}, 0, impl.ErrBad}, {[]impl.Term{term(2, 1, 9)}, 13, impl.ErrBad},
		{[]impl.Term{term(2, 1, 1)}, 0, impl.ErrBad}, {[]impl.Term{term(2, 2, 1)}, 0, impl.ErrBad}, {[]impl.Term{fine, term(2)}, 0, impl.ErrBad},
		{[]impl.Term{fine, fine, fine, term(-1, 1)}, 0, impl.ErrBad}, {[]impl.Term{term(4, 1), fine}, 0, impl.ErrBad}, {[]impl.Term{term(-1, 1)}, 12, impl.ErrBad},
		{[]impl.Term{term(math.MaxInt, 1)}, 1, impl.ErrBad}, {[]impl.Term{term(math.MinInt, 1)}, 1, impl.ErrBad},
		{[]impl.Term{term(0, math.MaxInt)}, 1, impl.ErrBad}, {[]impl.Term{term(0, math.MinInt)}, 1, impl.ErrBad}, {[]impl.Term{term(0, math.MaxInt, math.MinInt)}, 1, impl.ErrBad},
		{[]impl.Term{term(0, make([]int, impl.MaxList+1)...)}, 1, impl.ErrBad},
	} {
		match, code := impl.MatchKids(v.terms, repeated(1, v.kids))
		want := v.code == impl.OK && matchByTheRule(v.terms, repeated(1, v.kids))
		if match != want || code != v.code {
			t.Errorf("%d: MatchKids of %d kids = %v, %d; want code %d", i, v.kids, match, code, v.code)
		}
	}
}
