package tests

import (
	"math"
	"slices"
	"testing"

	"loop.example/g00701/impl"
)

// TestP5MachinesOfTerms has the states of some lists of terms written out, with their marks beside them.
func TestP5MachinesOfTerms(t *testing.T) {
	terms := func(list ...impl.Term) []impl.Term { return list }
	rows := func(list ...[]int) [][]int { return list }
	for i, v := range []struct {
		terms []impl.Term
		want  impl.Machine
		sets  [][]int
	}{
		{nil, machine(rows(row()), 0), [][]int{{0}}},
		{terms(), machine(rows(row()), 0), [][]int{{0}}},
		// One term of each Many.
		{terms(term(0, 1)), machine(rows(row(1, 1), row()), 1), [][]int{{0}, {1, 2}}},
		{terms(term(1, 1)), machine(rows(row(1, 1), row()), 0, 1), [][]int{{0, 2}, {1, 2}}},
		{terms(term(2, 1)), machine(rows(row(1, 1), row(1, 1)), 0, 1), [][]int{{0, 2}, {1, 2}}},
		{terms(term(3, 1)), machine(rows(row(1, 1), row(1, 1)), 1), [][]int{{0}, {1, 2}}},
		{terms(term(0, 2, 8)), machine(rows(row(2, 1, 8, 1), row()), 1), [][]int{{0}, {1, 2}}},
		{terms(term(2, 1, 2, 3, 4, 5, 6, 7, 8)), machine(rows(repeated(1, 8), repeated(1, 8)), 0, 1), [][]int{{0, 2}, {1, 2}}},
		// Two terms.
		{terms(term(0, 2), term(0, 1)), machine(rows(row(2, 1), row(1, 2), row()), 2), [][]int{{0}, {1, 2}, {3, 4}}},
		{terms(term(1, 2), term(0, 1)), machine(rows(row(1, 1, 2, 2), row(), row(1, 1)), 1), [][]int{{0, 2}, {3, 4}, {1, 2}}},
		{terms(term(2, 1), term(0, 1)), machine(rows(row(1, 1), row(1, 1)), 1), [][]int{{0, 2}, {1, 2, 3, 4}}},
		{terms(term(0, 1), term(2, 1)), machine(rows(row(1, 1), row(1, 2), row(1, 2)), 1, 2), [][]int{{0}, {1, 2, 4}, {3, 4}}},
		{terms(term(1, 1), term(1, 1)), machine(rows(row(1, 1), row(1, 2), row()), 0, 1, 2), [][]int{{0, 2, 4}, {1, 2, 3, 4}, {3, 4}}},
		{terms(term(3, 2), term(3, 1, 2)), machine(rows(row(2, 1), row(1, 2, 2, 3), row(1, 2, 2, 2), row(1, 2, 2, 3)), 2, 3), [][]int{{0}, {1, 2}, {3, 4}, {1, 2, 3, 4}}},
		// The numbers follow the kinds, not the terms.
		{terms(term(1, 3), term(0, 1), term(2, 1, 2)), machine(rows(row(1, 1, 3, 2), row(1, 3, 2, 3), row(1, 1), row(1, 3, 2, 3)), 1, 3), [][]int{{0, 2}, {3, 4, 6}, {1, 2}, {5, 6}}},
		// Terms that may be empty, one behind the other, up to the end.
		{
			terms(term(1, 4), term(2, 3), term(1, 2), term(2, 1)),
			machine(rows(row(1, 1, 2, 2, 3, 3, 4, 4), row(1, 1), row(1, 1), row(1, 1, 2, 2, 3, 3), row(1, 1, 2, 2, 3, 3)), 0, 1, 2, 3, 4),
			[][]int{{0, 2, 4, 6, 8}, {7, 8}, {5, 6, 8}, {3, 4, 6, 8}, {1, 2, 4, 6, 8}},
		},
		// One that may not be empty stands in between.
		{
			terms(term(1, 1), term(0, 2), term(1, 3), term(3, 4)),
			machine(rows(row(1, 1, 2, 2), row(2, 2), row(3, 3, 4, 4), row(4, 4), row(4, 4)), 4),
			[][]int{{0, 2}, {1, 2}, {3, 4, 6}, {5, 6}, {7, 8}},
		},
		// The rules of the demo schema.
		{demoRules()[0].Terms, machine(rows(row(2, 1, 3, 2, 4, 1), row(2, 1, 3, 1, 4, 1), row(2, 1, 3, 1, 4, 1)), 0, 1, 2), [][]int{{0, 2, 4}, {3, 4}, {1, 2, 3, 4}}},
		{demoRules()[1].Terms, demoMachine(), [][]int{{0}, {1, 2, 4}, {3, 4}}},
		{demoRules()[3].Terms, machine(rows(row(5, 1), row(5, 1)), 1), [][]int{{0}, {1, 2}}},
	} {
		if want, sets := compileByTheRule(v.terms); !alike(want, v.want) || !alike(sets, v.sets) {
			t.Fatalf("%d: by the rule it is %v with %v", i, want, sets)
		}
		if m, code := impl.CompileTerms(v.terms); !alike(m, v.want) || code != impl.OK {
			t.Errorf("%d: CompileTerms(%v) = %v, %d; want %v", i, v.terms, m, code, v.want)
		}
	}
}

func askMachineOf(t *testing.T, terms []impl.Term) impl.Machine {
	t.Helper()
	want, _ := compileByTheRule(terms)
	m, code := impl.CompileTerms(terms)
	if !slices.EqualFunc(m.Next, want.Next, slices.Equal[[]int]) || !slices.Equal(m.Final, want.Final) || code != impl.OK {
		t.Fatalf("CompileTerms(%v) = %v, %d; want %v", terms, m, code, want)
	}
	if !impl.MachineOK(m) || !impl.SameMachine(m, want) {
		t.Fatalf("CompileTerms(%v) = %v, which is not right", terms, m)
	}
	return m
}

// TestP5AllSmallMachines goes through all lists of up to three terms of kinds 1 and 2, and all of up to four kids.
func TestP5AllSmallMachines(t *testing.T) {
	kids := allLists([]int{1, 2, 3}, 4)
	for _, terms := range allTermLists(3) {
		m := askMachineOf(t, terms)
		for _, kids := range kids {
			askTheoremOfAutomata(t, m, terms, kids)
		}
	}
}

// TestP5AllMachinesOfFourTerms goes through all lists of four terms of kinds 1 and 2, and all short lists of kids.
func TestP5AllMachinesOfFourTerms(t *testing.T) {
	kids := allLists([]int{1, 2}, 4)
	for _, terms := range allTermLists(4) {
		if len(terms) < 4 {
			continue
		}
		m, _ := impl.CompileTerms(terms)
		for _, kids := range kids {
			askTheoremOfAutomata(t, m, terms, kids)
		}
	}
}

// askTheoremOfAutomata asks that the machine of terms takes just the kids that match them.
func askTheoremOfAutomata(t *testing.T, m impl.Machine, terms []impl.Term, kids []int) bool {
	t.Helper()
	match, code := impl.MatchKids(terms, kids)
	if code != impl.OK {
		t.Fatalf("MatchKids(%v, %v): %d", terms, kids, code)
	}
	if yes, code := impl.RunMachine(m, kids); yes != match || code != impl.OK {
		t.Fatalf("RunMachine of the machine of %v and of %v = %v, %d; MatchKids says %v", terms, kids, yes, code, match)
	}
	return match
}

func TestP5ThrownMachinesOfTerms(t *testing.T) {
	throw := &dice{41}
	var seen tally
	most := 0
	for range 10000 {
		terms := thrownTerms(throw, 1+throw.below(8))
		m := askMachineOf(t, terms)
		most = max(most, len(m.Next))
		kids := taken(throw, terms)
		if !askTheoremOfAutomata(t, m, terms, kids) {
			t.Fatalf("%v is not taken by %v", kids, terms)
		}
		seen.count(askTheoremOfAutomata(t, m, terms, unsettled(throw, kids)))
	}
	seen.askBoth(t)
	if most < 12 {
		t.Error("all machines were small:", most)
	}
}

// TestP5MoreKidsThanANodeHas: a machine has no bound but that of a list.
func TestP5MoreKidsThanANodeHas(t *testing.T) {
	for many, want := range []bool{false, false, true, true} {
		m, _ := impl.CompileTerms([]impl.Term{term(many, 4)})
		for _, n := range []int{12, 13, 100, impl.MaxList} {
			if yes, code := impl.RunMachine(m, repeated(4, n)); yes != want || code != impl.OK {
				t.Errorf("Many %d: RunMachine of %d kids = %v, %d", many, n, yes, code)
			}
		}
	}
}

func TestP5TermsThatAreNotRight(t *testing.T) {
	fine := term(2, 1)
	for i, v := range []struct {
		terms []impl.Term
		code  int
	}{
		{slices.Repeat([]impl.Term{fine}, 4), impl.OK}, {slices.Repeat([]impl.Term{fine}, 5), impl.ErrBad},
		{slices.Repeat([]impl.Term{fine}, impl.MaxList), impl.ErrBad}, {slices.Repeat([]impl.Term{fine}, impl.MaxList+1), impl.ErrLong},
		{make([]impl.Term, impl.MaxList), impl.ErrBad}, {make([]impl.Term, impl.MaxList+1), impl.ErrLong},
		{[]impl.Term{{}}, impl.ErrBad}, {[]impl.Term{fine, fine, fine, {}}, impl.ErrBad}, {[]impl.Term{term(2)}, impl.ErrBad},
		{[]impl.Term{term(2, 8)}, impl.OK}, {[]impl.Term{term(2, 9)}, impl.ErrBad}, {[]impl.Term{term(2, 1, 9)}, impl.ErrBad}, {[]impl.Term{term(2, 0)}, impl.ErrBad},
		{[]impl.Term{term(2, -1)}, impl.ErrBad}, {[]impl.Term{term(2, 0, 1)}, impl.ErrBad}, {[]impl.Term{term(2, 1, 1)}, impl.ErrBad}, {[]impl.Term{term(2, 2, 1)}, impl.ErrBad},
		{[]impl.Term{term(-1, 1)}, impl.ErrBad}, {[]impl.Term{term(0, 1)}, impl.OK}, {[]impl.Term{term(3, 1)}, impl.OK}, {[]impl.Term{term(4, 1)}, impl.ErrBad},
		{[]impl.Term{term(math.MaxInt, 1)}, impl.ErrBad}, {[]impl.Term{term(math.MinInt, 1)}, impl.ErrBad},
		{[]impl.Term{term(0, math.MaxInt)}, impl.ErrBad}, {[]impl.Term{term(0, math.MinInt)}, impl.ErrBad}, {[]impl.Term{term(0, math.MaxInt, math.MinInt)}, impl.ErrBad},
		{[]impl.Term{term(0, make([]int, impl.MaxList+1)...)}, impl.ErrBad},
	} {
		m, code := impl.CompileTerms(v.terms)
		if code != v.code || code != impl.OK && !alike(m, impl.Machine{}) {
			t.Errorf("%d: CompileTerms = %s, %d; want code %d", i, machineLine(m), code, v.code)
		}
		if _, match := impl.MatchKids(v.terms, nil); match != code {
			t.Errorf("%d: CompileTerms says %d, MatchKids %d", i, code, match)
		}
	}
}
