package tests

import (
	"math"
	"slices"
	"testing"

	"loop.example/g00701/impl"
)

func TestP5RightMachines(t *testing.T) {
	for i, m := range rightMachines() {
		if !machineByTheRule(m) {
			t.Fatal("the rule says that this is not right", i, machineLine(m))
		}
		if !impl.MachineOK(m) {
			t.Errorf("MachineOK is false of %d: %s", i, machineLine(m))
		}
	}
}

func TestP5MachinesThatAreNotRight(t *testing.T) {
	for _, w := range wrongMachineTurns() {
		m := turnedMachine(w.make)
		if machineByTheRule(m) {
			t.Fatal("the rule says that this is right:", w.what)
		}
		askAllCallsForBadMachine(t, w.what, m)
	}
}

func askAllCallsForBadMachine(t *testing.T, what string, m impl.Machine) {
	t.Helper()
	if impl.MachineOK(m) {
		t.Errorf("%s: MachineOK", what)
	}
	if impl.SameMachine(m, m) || impl.SameMachine(m, demoMachine()) || impl.SameMachine(demoMachine(), m) {
		t.Errorf("%s: SameMachine", what)
	}
	if kids, code := impl.FirstKids(m); code != impl.ErrBad || len(kids) > 0 {
		t.Errorf("%s: FirstKids = %v, %d", what, kids, code)
	}
	for _, v := range []struct {
		kids []int
		code int
	}{
		{nil, impl.ErrBad}, {[]int{}, impl.ErrBad}, {[]int{3}, impl.ErrBad}, {[]int{3, 2}, impl.ErrBad}, {[]int{0}, impl.ErrBad}, {[]int{9}, impl.ErrBad},
		{repeated(3, impl.MaxList), impl.ErrBad}, {repeated(3, impl.MaxList+1), impl.ErrLong},
	} {
		if yes, code := impl.RunMachine(m, v.kids); yes || code != v.code {
			t.Errorf("%s: RunMachine of %d kids = %v, %d", what, len(v.kids), yes, code)
		}
	}
}

// TestP5OneNumberTurned puts every number near the bounds at every place of a machine.
func TestP5OneNumberTurned(t *testing.T) {
	for state := range 3 {
		for kind := range 8 {
			for _, n := range []int{math.MinInt, -3, -2, -1, 0, 1, 2, 3, 4, 511, 512, math.MaxInt} {
				m := turnedMachine(func(m *impl.Machine) { m.Next[state][kind] = n })
				if impl.MachineOK(m) != (n >= -1 && n <= 2) {
					t.Errorf("MachineOK is wrong of %d at %d, %d", n, state, kind)
				}
			}
		}
	}
}

func TestP5NumbersOfStates(t *testing.T) {
	for states, right := range map[int]bool{1: true, 2: true, 511: true, 512: true, 513: false, 4096: false, 4097: false} {
		if impl.MachineOK(chainMachine(states)) != right || impl.SameMachine(chainMachine(states), chainMachine(states)) != right {
			t.Error("states:", states)
		}
	}
	for _, finals := range []int{0, 1, 511, 513, 4096} {
		m := chainMachine(512)
		m.Final = make([]bool, finals)
		askAllCallsForBadMachine(t, "Final of another length", m)
	}
}

func TestP5RunsOfMachines(t *testing.T) {
	demo := demoMachine()
	loop, nothing := machine([][]int{row(1, 0, 8, 0)}, 0), machine([][]int{row()})
	for i, v := range []struct {
		m    impl.Machine
		kids []int
		yes  bool
	}{
		{demo, nil, false}, {demo, []int{3}, true}, {demo, []int{2}, false}, {demo, []int{3, 2, 3, 4}, true}, {demo, []int{3, 2, 1}, false},
		{demo, []int{3, 5, 3}, false}, {demo, []int{3, 3, 3, 3, 3, 3, 3, 3, 3, 3, 3, 3, 3}, true},
		// Of no kids state 0 alone decides.
		{nothing, nil, false}, {nothing, []int{}, false}, {machine([][]int{row()}, 0), nil, true}, {machine([][]int{row()}, 0), []int{}, true},
		{chainMachine(2), nil, false}, {machine([][]int{row(1, 1), row()}, 1), nil, false}, {machine([][]int{row(1, 1), row()}, 0), []int{1}, false},
		// What is not from 1 to MaxKind leads nowhere, at the beginning and later.
		{loop, []int{1}, true}, {loop, []int{8}, true}, {loop, []int{1, 8, 8, 1}, true}, {loop, []int{2}, false}, {loop, []int{7}, false},
		{loop, []int{0}, false}, {loop, []int{9}, false}, {loop, []int{-1}, false}, {loop, []int{-8}, false}, {loop, []int{1, 9, 1}, false}, {loop, []int{8, 0}, false},
		{loop, []int{math.MaxInt}, false}, {loop, []int{math.MinInt}, false}, {loop, []int{1<<32 + 1}, false}, {loop, []int{1, math.MinInt + 1}, false},
		{machine([][]int{repeated(0, 8)}, 0), []int{0}, false}, {machine([][]int{repeated(0, 8)}, 0), []int{9}, false}, {machine([][]int{repeated(0, 8)}, 0), []int{1, 2, 3, 4, 5, 6, 7, 8}, true},
		// A way that ends ahead of the last kid does not come back.
		{machine([][]int{row(1, 1), row(2, 0)}, 0, 1), []int{1, 1, 2}, false}, {machine([][]int{row(1, 1), row(2, 0)}, 0, 1), []int{1, 2, 1}, true},
		// Circles of states.
		{circleMachine(3, 0), repeated(1, 3), true}, {circleMachine(3, 0), repeated(1, 4), false}, {circleMachine(3, 2), repeated(1, 5), true}, {circleMachine(3), repeated(1, 3), false},
		// As many states, and as many kids, as there may be.
		{chainMachine(512), firstOf(chainMachine(512)), true}, {chainMachine(512), firstOf(chainMachine(511)), false},
		{loop, repeated(1, impl.MaxList), true}, {nothing, repeated(1, impl.MaxList), false}, {circleMachine(512, 0), repeated(1, impl.MaxList), true},
	} {
		if runByTheRule(v.m, 0, v.kids) != v.yes {
			t.Fatal("by the rule it is otherwise", i)
		}
		if yes, code := impl.RunMachine(v.m, v.kids); yes != v.yes || code != impl.OK {
			t.Errorf("%d: RunMachine(%s, %.100v) = %v, %d", i, machineLine(v.m), v.kids, yes, code)
		}
	}
	if yes, code := impl.RunMachine(loop, repeated(1, impl.MaxList+1)); yes || code != impl.ErrLong {
		t.Error("RunMachine of too many kids", yes, code)
	}
}

func firstOf(m impl.Machine) []int {
	kids, _ := firstByTheRule(m)
	return kids
}

func TestP5ThrownRuns(t *testing.T) {
	throw := &dice{31}
	var seen tally
	for range 20000 {
		m := thrownMachine(throw, 1+throw.below(6))
		var kids []int
		for state := 0; len(kids) < 20 && throw.below(6) > 0; {
			kid := throw.below(10)
			if open := slices.IndexFunc(m.Next[state], func(next int) bool { return next >= 0 }); throw.below(5) > 0 && open >= 0 {
				kid = open + 1
				state = m.Next[state][open]
			}
			kids = append(kids, kid)
		}
		yes, code := impl.RunMachine(m, kids)
		if yes != runByTheRule(m, 0, kids) || code != impl.OK {
			t.Fatalf("RunMachine(%s, %v) = %v, %d", machineLine(m), kids, yes, code)
		}
		seen.count(yes)
	}
	seen.askBoth(t)
}

func TestP5MachinesThatAreAlike(t *testing.T) {
	list := rightMachines()
	for i, a := range list {
		for j, b := range list {
			want := alike(a, b)
			if impl.SameMachine(a, b) != want || impl.SameMachine(b, a) != want {
				t.Errorf("SameMachine of %d and %d is not %v", i, j, want)
			}
		}
		if !impl.SameMachine(a, cloneMachine(a)) {
			t.Errorf("SameMachine is false of %d and its like", i)
		}
	}
	for what, turn := range map[string]func(*impl.Machine){
		"a state":             func(m *impl.Machine) { m.Next[2][7] = 0 },
		"another state":       func(m *impl.Machine) { m.Next[0][2] = 2 },
		"leading nowhere":     func(m *impl.Machine) { m.Next[1][3] = -1 },
		"a Final":             func(m *impl.Machine) { m.Final[2] = false },
		"the first Final":     func(m *impl.Machine) { m.Final[0] = true },
		"a state more":        func(m *impl.Machine) { m.Next, m.Final = append(m.Next, row()), append(m.Final, false) },
		"rows that are moved": func(m *impl.Machine) { m.Next[0], m.Next[1] = m.Next[1], m.Next[0] },
	} {
		m := turnedMachine(turn)
		if !impl.MachineOK(m) || impl.SameMachine(m, demoMachine()) || impl.SameMachine(demoMachine(), m) {
			t.Error("SameMachine, with another:", what)
		}
	}
}
