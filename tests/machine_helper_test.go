package tests

import (
	"fmt"
	"math"
	"slices"

	"loop.example/g00701/impl"
)

// row is a row of Next that leads nowhere but by the kinds named: kind, state, kind, state and so on.
func row(leads ...int) []int {
	list := repeated(-1, 8)
	for i := 0; i < len(leads); i += 2 {
		list[leads[i]-1] = leads[i+1]
	}
	return list
}

// machine has the rows as its states, and the states named as Final ones.
func machine(rows [][]int, final ...int) impl.Machine {
	m := impl.Machine{Next: rows, Final: make([]bool, len(rows))}
	for _, state := range final {
		m.Final[state] = true
	}
	return m
}

// chainMachine leads from each state to the next one, by kinds 1 to 8 in turn; its last state is Final.
func chainMachine(states int) impl.Machine {
	var rows [][]int
	for state := range states - 1 {
		rows = append(rows, row(state%8+1, state+1))
	}
	return machine(append(rows, row()), states-1)
}

// circleMachine leads by kind 1 from each state to the next one, and from the last one to the first.
func circleMachine(states int, final ...int) impl.Machine {
	var rows [][]int
	for state := range states {
		rows = append(rows, row(1, (state+1)%states))
	}
	return machine(rows, final...)
}

// demoMachine is that of `par sect|par|list*`, written out.
func demoMachine() impl.Machine {
	return machine([][]int{row(3, 1), row(2, 2, 3, 2, 4, 2), row(2, 2, 3, 2, 4, 2)}, 1, 2)
}

func cloneMachine(m impl.Machine) impl.Machine {
	m.Next, m.Final = slices.Clone(m.Next), slices.Clone(m.Final)
	for i := range m.Next {
		m.Next[i] = slices.Clone(m.Next[i])
	}
	return m
}

func turnedMachine(turn func(*impl.Machine)) impl.Machine {
	m := cloneMachine(demoMachine())
	turn(&m)
	return m
}

// thrownMachine is a right machine of so many states as dice fall.
func thrownMachine(throw *dice, states int) impl.Machine {
	m := machine(make([][]int, states))
	for state := range m.Next {
		m.Next[state] = row()
		for range throw.below(4) {
			m.Next[state][throw.below(8)] = throw.below(states)
		}
		m.Final[state] = throw.below(4) == 0
	}
	return m
}

func rightMachines() []impl.Machine {
	list := []impl.Machine{
		demoMachine(), machine([][]int{row()}), machine([][]int{row()}, 0),
		machine([][]int{row(1, 0, 8, 0)}), machine([][]int{repeated(0, 8)}, 0),
		machine([][]int{row(1, 1), row(8, 0)}, 1), machine([][]int{row(), row(1, 1)}, 1),
		chainMachine(2), chainMachine(511), chainMachine(512), circleMachine(3), circleMachine(512, 511),
		machine(slices.Repeat([][]int{repeated(511, 8)}, 512), 0, 511),
	}
	throw := &dice{23}
	for i := range 30 {
		list = append(list, thrownMachine(throw, 1+i/2))
	}
	return list
}

type machineTurn struct {
	what string
	make func(*impl.Machine)
}

// wrongMachineTurns make a machine of the demo machine that is not right.
func wrongMachineTurns() []machineTurn {
	state := func(at, kind, state int) func(*impl.Machine) {
		return func(m *impl.Machine) { m.Next[at][kind-1] = state }
	}
	return []machineTurn{
		{"a state of -2", state(0, 1, -2)},
		{"a state of -2 in the last row", state(2, 8, -2)},
		{"a state behind the last one", state(0, 1, 3)},
		{"a state behind the last one in the last row", state(2, 8, 3)},
		{"the state 512", state(1, 4, 512)},
		{"a very large state", state(1, 5, math.MaxInt)},
		{"a very small state", state(1, 5, math.MinInt)},
		{"a state that is right in 32 bits", state(1, 5, 1<<32)},
		{"an empty row", func(m *impl.Machine) { m.Next[1] = nil }},
		{"a row of 1", func(m *impl.Machine) { m.Next[0] = []int{0} }},
		{"a row of 7", func(m *impl.Machine) { m.Next[1] = m.Next[1][:7] }},
		{"a last row of 7", func(m *impl.Machine) { m.Next[2] = m.Next[2][:7] }},
		{"a row of 9", func(m *impl.Machine) { m.Next[0] = append(m.Next[0], -1) }},
		{"a last row of 9", func(m *impl.Machine) { m.Next[2] = append(m.Next[2], 0) }},
		{"a very long row", func(m *impl.Machine) { m.Next[1] = make([]int, 5000) }},
		{"no Final", func(m *impl.Machine) { m.Final = nil }},
		{"one Final too few", func(m *impl.Machine) { m.Final = m.Final[:2] }},
		{"one Final too many", func(m *impl.Machine) { m.Final = append(m.Final, true) }},
		{"very many Final", func(m *impl.Machine) { m.Final = make([]bool, 5000) }},
		{"no rows", func(m *impl.Machine) { m.Next = nil }},
		{"one row too few", func(m *impl.Machine) { m.Next = m.Next[:2] }},
		{"one row too many", func(m *impl.Machine) { m.Next = append(m.Next, row()) }},
		{"fewer states than it leads to", func(m *impl.Machine) { m.Next, m.Final = m.Next[:2], m.Final[:2] }},
		{"no state", func(m *impl.Machine) { *m = impl.Machine{} }},
		{"no state, of empty lists", func(m *impl.Machine) { *m = impl.Machine{Next: [][]int{}, Final: []bool{}} }},
		{"no state but a Final", func(m *impl.Machine) { *m = impl.Machine{Final: []bool{true}} }},
		{"513 states", func(m *impl.Machine) { *m = chainMachine(513) }},
		{"513 states, all of them alike", func(m *impl.Machine) { *m = machine(slices.Repeat([][]int{repeated(0, 8)}, 513), 0) }},
		{"very many states", func(m *impl.Machine) { *m = circleMachine(impl.MaxList+1, 0) }},
		{"very many states without rows", func(m *impl.Machine) { *m = machine(make([][]int, 5000), 0) }},
	}
}

// wrongMachines breaks each sentence of chapter 5 about machines.
func wrongMachines() []impl.Machine {
	var list []impl.Machine
	for _, w := range wrongMachineTurns() {
		list = append(list, turnedMachine(w.make))
	}
	return list
}

// The same things by the words of chapter 5, slowly.

func machineByTheRule(m impl.Machine) bool {
	if len(m.Next) < 1 || len(m.Next) > 512 || len(m.Final) != len(m.Next) {
		return false
	}
	for _, row := range m.Next {
		if len(row) != 8 || slices.Min(row) < -1 || slices.Max(row) >= len(m.Next) {
			return false
		}
	}
	return true
}

// runByTheRule begins in a state, and goes on with the kids that are left.
func runByTheRule(m impl.Machine, state int, kids []int) bool {
	if len(kids) == 0 {
		return m.Final[state]
	}
	if kids[0] < 1 || kids[0] > 8 || m.Next[state][kids[0]-1] == -1 {
		return false
	}
	return runByTheRule(m, m.Next[state][kids[0]-1], kids[1:])
}

// closedByTheRule adds marks to a set, which is told by its marks in order.
func closedByTheRule(terms []impl.Term, set []int) []int {
	set = slices.Clone(set)
	for i, t := range terms {
		passed := slices.Contains(set, 2*i) && (t.Many == 1 || t.Many == 2)
		if passed || slices.Contains(set, 2*i+1) {
			set = append(set, 2*i+2)
		}
	}
	slices.Sort(set)
	return slices.Compact(set)
}

func ledByTheRule(terms []impl.Term, set []int, kind int) []int {
	var led []int
	for i, t := range terms {
		again := slices.Contains(set, 2*i+1) && (t.Many == 2 || t.Many == 3)
		if slices.Contains(t.Kinds, kind) && (again || slices.Contains(set, 2*i)) {
			led = append(led, 2*i+1)
		}
	}
	return closedByTheRule(terms, led)
}

// compileByTheRule also answers the sets of the states.
func compileByTheRule(terms []impl.Term) (impl.Machine, [][]int) {
	sets := [][]int{closedByTheRule(terms, []int{0})}
	var m impl.Machine
	for state := 0; state < len(sets); state++ {
		leads := row()
		for kind := 1; kind <= 8; kind++ {
			led := ledByTheRule(terms, sets[state], kind)
			if len(led) == 0 {
				continue
			}
			same := func(set []int) bool { return slices.Equal(set, led) }
			if !slices.ContainsFunc(sets, same) {
				sets = append(sets, led)
			}
			leads[kind-1] = slices.IndexFunc(sets, same)
		}
		m.Next = append(m.Next, leads)
		m.Final = append(m.Final, slices.Contains(sets[state], 2*len(terms)))
	}
	return m, sets
}

// firstByTheRule tells of each state how many kids it takes to a Final one, and goes by the lowest kind that is on a
// shortest way: what goes state by state and kind by kind finds that way first.
func firstByTheRule(m impl.Machine) ([]int, int) {
	const far = 1000
	left := repeated(far, len(m.Next))
	for range len(m.Next) {
		for state := range left {
			if m.Final[state] {
				left[state] = 0
			}
			for _, next := range m.Next[state] {
				if next >= 0 {
					left[state] = min(left[state], left[next]+1)
				}
			}
		}
	}
	if left[0] >= far {
		return nil, impl.ErrNone
	}
	var kids []int
	for state := 0; left[state] > 0; {
		nearer := func(next int) bool { return next >= 0 && left[next] == left[state]-1 }
		at := slices.IndexFunc(m.Next[state], nearer)
		kids = append(kids, at+1)
		state = m.Next[state][at]
	}
	return kids, impl.OK
}

func machineLine(m impl.Machine) string {
	return fmt.Sprintf("%.600s", fmt.Sprint(m))
}
