package tests

import (
	"slices"
	"testing"

	"loop.example/g00701/impl"
)

func TestP5FirstKids(t *testing.T) {
	rows := func(list ...[]int) [][]int { return list }
	for i, v := range []struct {
		m    impl.Machine
		kids []int
		code int
	}{
		{demoMachine(), []int{3}, impl.OK},
		// A state 0 that is Final asks for no kids, wherever it leads.
		{machine(rows(row()), 0), nil, impl.OK}, {machine(rows(row(1, 0)), 0), nil, impl.OK}, {machine(rows(row(1, 1), row(1, 0)), 0, 1), nil, impl.OK}, {circleMachine(512, 0), nil, impl.OK},
		// No Final state, or none that can be come to.
		{machine(rows(row())), nil, impl.ErrNone}, {machine(rows(repeated(0, 8))), nil, impl.ErrNone}, {circleMachine(3), nil, impl.ErrNone}, {circleMachine(512), nil, impl.ErrNone},
		{machine(rows(row(), row(1, 0)), 1), nil, impl.ErrNone}, {machine(rows(row(2, 0), row(1, 1)), 1), nil, impl.ErrNone},
		{machine(rows(row(1, 1, 3, 2), row(1, 0), row(5, 1), row(1, 3, 2, 0)), 3), nil, impl.ErrNone},
		// Each kind.
		{machine(rows(row(1, 1), row()), 1), []int{1}, impl.OK}, {machine(rows(row(8, 1), row()), 1), []int{8}, impl.OK}, {machine(rows(repeated(1, 8), row()), 1), []int{1}, impl.OK},
		// States that lead to themselves and circles on the way.
		{machine(rows(row(1, 0, 4, 1), row(1, 1, 2, 0, 6, 2), repeated(2, 8)), 2), []int{4, 6}, impl.OK}, {circleMachine(3, 2), []int{1, 1}, impl.OK}, {circleMachine(512, 511), repeated(1, 511), impl.OK},
		// The shortest list, though a longer one has lower kinds, or goes by lower states.
		{machine(rows(row(1, 1, 8, 3), row(1, 2), row(1, 3), row()), 3), []int{8}, impl.OK}, {machine(rows(row(1, 1, 2, 4), row(1, 2), row(1, 3), row(), row(8, 3)), 3), []int{2, 8}, impl.OK},
		// Of several the lowest kind first, and not the lowest state.
		{machine(rows(row(2, 1, 5, 1), row()), 1), []int{2}, impl.OK}, {machine(rows(row(3, 2, 7, 1), row(), row()), 1, 2), []int{3}, impl.OK},
		{machine(rows(row(1, 1, 2, 2), row(8, 3), row(1, 3), row()), 3), []int{1, 8}, impl.OK}, {machine(rows(row(1, 2, 2, 1), row(1, 3), row(8, 4), row(), row()), 3, 4), []int{1, 8}, impl.OK},
		// One that was come to already is not gone to again.
		{machine(rows(row(1, 1, 2, 1), row(3, 2, 4, 2), row()), 2), []int{1, 3}, impl.OK},
		{machine(rows(row(1, 1), row(2, 1, 3, 0, 4, 2), row()), 2), []int{1, 4}, impl.OK},
		// As long as it can be.
		{chainMachine(512), slices.Repeat([]int{1, 2, 3, 4, 5, 6, 7, 8}, 64)[:511], impl.OK},
	} {
		if kids, code := firstByTheRule(v.m); !slices.Equal(kids, v.kids) || code != v.code {
			t.Fatalf("%d: by the rule it is %v, %d", i, kids, code)
		}
		if kids, code := impl.FirstKids(v.m); !slices.Equal(kids, v.kids) || code != v.code {
			t.Errorf("%d: FirstKids(%s) = %.100v, %d; want %.100v, %d", i, machineLine(v.m), kids, code, v.kids, v.code)
		}
	}
}

// TestP5FirstKidsAreTheFirstOfAllLists holds FirstKids against all lists of kids, the shorter ones and the lower kinds first.
func TestP5FirstKidsAreTheFirstOfAllLists(t *testing.T) {
	lists := allLists([]int{1, 2, 3, 4, 5, 6, 7, 8}, 4)
	throw := &dice{53}
	var lengths [5]int
	for range 3000 {
		m := thrownMachine(throw, 1+throw.below(5))
		kids, code := impl.FirstKids(m)
		at := slices.IndexFunc(lists, func(list []int) bool { return runByTheRule(m, 0, list) })
		if at < 0 {
			if code != impl.ErrNone || len(kids) > 0 {
				t.Fatalf("FirstKids(%v) = %v, %d; want ErrNone", m, kids, code)
			}
			continue
		}
		if !slices.Equal(kids, lists[at]) || code != impl.OK {
			t.Fatalf("FirstKids(%v) = %v, %d; want %v", m, kids, code, lists[at])
		}
		lengths[len(kids)]++
	}
	for length, times := range lengths[:4] {
		if times < 10 {
			t.Error("too few of length", length, times)
		}
	}
}

func TestP5FirstKidsOfThrownMachines(t *testing.T) {
	throw := &dice{59}
	var seen tally
	for range 10000 {
		m := thrownMachine(throw, 1+throw.below(12))
		for state := range m.Final {
			m.Final[state] = m.Final[state] && throw.below(3) == 0
		}
		want, wanted := firstByTheRule(m)
		kids, code := impl.FirstKids(m)
		if !slices.Equal(kids, want) || code != wanted {
			t.Fatalf("FirstKids(%v) = %v, %d; want %v, %d", m, kids, code, want, wanted)
		}
		if yes, _ := impl.RunMachine(m, kids); yes != (code == impl.OK) {
			t.Fatalf("FirstKids(%v) = %v, which does not lead to a Final state", m, kids)
		}
		seen.count(code == impl.OK)
	}
	seen.askBoth(t)
}

// TestP5FirstKidsOfTermsAreTheFewest: of terms it takes a kid for each that may not be empty, and no more.
func TestP5FirstKidsOfTermsAreTheFewest(t *testing.T) {
	throw := &dice{61}
	lists := allTermLists(3)
	for range 5000 {
		lists = append(lists, thrownTerms(throw, 8))
	}
	for _, terms := range lists {
		var fewest []int
		for _, term := range terms {
			if term.Many == 0 || term.Many == 3 {
				fewest = append(fewest, term.Kinds[0])
			}
		}
		m, _ := impl.CompileTerms(terms)
		kids, code := impl.FirstKids(m)
		if !slices.Equal(kids, fewest) || code != impl.OK {
			t.Fatalf("FirstKids of the machine of %v = %v, %d; want %v", terms, kids, code, fewest)
		}
		if match, _ := impl.MatchKids(terms, kids); !match {
			t.Fatalf("%v do not match %v", kids, terms)
		}
	}
}
