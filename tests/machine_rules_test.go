package tests

import (
	"math"
	"slices"
	"testing"

	"loop.example/g00701/impl"
)

// machineAsks are calls of chapter 5 with machines and terms that are right and with such as are not.
func machineAsks() []ask {
	var list []ask
	add := func(name string, f any, args ...any) { list = append(list, ask{name, f, args}) }
	machines := append(rightMachines(), wrongMachines()...)
	kids := [][]int{nil, {}, {3}, {3, 2, 3, 4}, {0, -1, math.MaxInt, math.MinInt}, {9}, repeated(1, 13), repeated(1, impl.MaxList), repeated(1, impl.MaxList+1)}
	for i, m := range machines {
		add("MachineOK", impl.MachineOK, m)
		add("FirstKids", impl.FirstKids, m)
		for _, kids := range kids {
			add("RunMachine", impl.RunMachine, m, kids)
		}
		for _, other := range []impl.Machine{m, demoMachine(), machines[(i+1)%len(machines)]} {
			add("SameMachine", impl.SameMachine, m, other)
			add("SameMachine", impl.SameMachine, other, m)
		}
	}
	for _, rules := range append(rightSchemas(), wrongSchemas()...) {
		for _, r := range rules[:min(len(rules), 8)] {
			add("CompileTerms", impl.CompileTerms, r.Terms)
		}
	}
	for _, terms := range []int{4, 5, impl.MaxList, impl.MaxList + 1} {
		add("CompileTerms", impl.CompileTerms, slices.Repeat([]impl.Term{term(3, 1, 8)}, terms))
	}
	return list
}

func TestP1RulesOfMachines(t *testing.T) {
	for _, a := range machineAsks() {
		askRules(t, a)
	}
}

func TestP1MachinesDoNotHangOnWhatWasCalledAhead(t *testing.T) {
	askOrders(t, machineAsks())
}

// TestP1AnAnswerWrittenIntoChangesNoOther writes into a row of an answer: no other row, and no later answer, turns.
func TestP1AnAnswerWrittenIntoChangesNoOther(t *testing.T) {
	for _, terms := range [][]impl.Term{nil, demoRules()[0].Terms, greatRules()[0].Terms, {term(2, 1), term(2, 1), term(2, 1), term(2, 1)}} {
		want, _ := compileByTheRule(terms)
		m, _ := impl.CompileTerms(terms)
		for state := range m.Next {
			for place := range m.Next[state] {
				m.Next[state][place] = 77
			}
			_ = append(m.Next[state], 88)
			m.Final[state] = !m.Final[state]
			if !alike(m.Next[state+1:], want.Next[state+1:]) {
				t.Fatalf("row %d of the machine of %v shares memory with a later one", state, terms)
			}
		}
		if again, _ := impl.CompileTerms(terms); !alike(again, want) {
			t.Errorf("CompileTerms(%v), when an answer was written into, = %v", terms, again)
		}
	}
}
