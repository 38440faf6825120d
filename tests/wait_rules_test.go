package tests

import (
	"math"
	"slices"
	"testing"

	"loop.example/g00701/impl"
)

// waitAsks are calls of chapter 9 with documents, tables and holds that are right and with such as are not.
func waitAsks() []ask {
	var list []ask
	add := func(name string, f any, args ...any) { list = append(list, ask{name, f, args}) }
	addHold := func(d impl.Doc, x impl.Table, h impl.Hold) {
		add("BlockersOf", impl.BlockersOf, d, x, h.Session)
		add("CircleOf", impl.CircleOf, d, x, h.Session)
		add("AskLock", impl.AskLock, d, x, h)
		add("LeaveTable", impl.LeaveTable, d, x, h.Session)
		add("FreeLock", impl.FreeLock, d, x, h.Session, h.Node)
	}
	addTable := func(d impl.Doc, x, other impl.Table) {
		add("TableOK", impl.TableOK, d, x)
		add("SettleTable", impl.SettleTable, d, x)
		add("SameTable", impl.SameTable, x, x)
		add("SameTable", impl.SameTable, x, other)
	}
	strange := strangeHolds()
	tables := append(rightTables(), wrongTables()...)
	for i, x := range tables {
		addTable(demoDoc(), x, tables[(i+1)%len(tables)])
		addHold(demoDoc(), x, strange[i*5%len(strange)])
		for _, h := range []impl.Hold{hold(1, 1, impl.LkIS), hold(1, 7, impl.LkX), hold(2, 5, impl.LkS), hold(3, 1, impl.LkX), hold(10, 1, impl.LkIX), hold(13, 3, impl.LkIS)} {
			addHold(demoDoc(), x, h)
		}
	}
	for _, h := range strange {
		addHold(demoDoc(), rightTables()[len(rightHolds())+5], h)
	}
	throw := &dice{173}
	for i, d := range append(rightDocs(), wrongDocs()...) {
		addTable(d, tables[i%len(tables)], tables[i*3%len(tables)])
		addHold(d, tables[i%len(tables)], hold(1, 1, impl.LkX))
		addHold(d, impl.Table{}, hold(1, d.Root, impl.LkX))
		if rightByTheRule(d) {
			for range 5 {
				x := thrownTable(throw, d, 8, 6)
				addTable(d, x, x)
				for _, h := range append(slices.Clone(x.Holds[:min(len(x.Holds), 2)]), thrownWait(throw, d)) {
					addHold(d, x, h)
				}
			}
		}
	}
	return list
}

func TestP1RulesOfWaits(t *testing.T) {
	for _, a := range waitAsks() {
		askRules(t, a)
	}
}

func TestP1WaitsDoNotHangOnWhatWasCalledAhead(t *testing.T) {
	askOrders(t, waitAsks())
}

// callsOfATable are some with and without a code; with some of them the table is as it was.
func callsOfATable() []func(impl.Table) []any {
	calls := []func(impl.Table) []any{func(x impl.Table) []any { return all(impl.SettleTable(demoDoc(), x)) }}
	for _, session := range []int{1, 2, 5} {
		calls = append(calls, func(x impl.Table) []any { return all(impl.LeaveTable(demoDoc(), x, session)) })
	}
	for _, node := range []int{6, 5, 77} {
		calls = append(calls, func(x impl.Table) []any { return all(impl.FreeLock(demoDoc(), x, 2, node)) })
	}
	for _, h := range []impl.Hold{hold(2, 4, impl.LkS), hold(5, 3, impl.LkIS), hold(5, 8, impl.LkX), hold(2, 6, impl.LkS), hold(1, 6, impl.LkS), hold(5, 77, impl.LkS), hold(5, 1, 6)} {
		calls = append(calls, func(x impl.Table) []any { return all(impl.AskLock(demoDoc(), x, h)) })
	}
	return calls
}

// TestP1ATableWrittenIntoChangesNoOther writes into each list of an answer and behind its end, also where the table is as
// it was.
func TestP1ATableWrittenIntoChangesNoOther(t *testing.T) {
	// There is room behind the ends of the lists that are given, and something in it.
	given := func() impl.Table {
		locks := holds(hold(1, 4, impl.LkX), hold(2, 6, impl.LkX), hold(999, 9, impl.LkX), hold(999, 8, impl.LkX))
		waits := holds(hold(1, 6, impl.LkS), hold(7, 2, impl.LkS), hold(999, 9, impl.LkX), hold(999, 8, impl.LkX))
		return table(locks[:2], waits[:2]...)
	}
	whole := func(x impl.Table) []any { return all(x.Holds[:4], x.Waits[:4]) }
	for i, call := range callsOfATable() {
		x, want := given(), call(given())
		answers := call(x)
		y := answers[0].(impl.Table)
		_, _ = append(y.Holds, hold(1, 1, 1)), append(y.Waits, hold(1, 1, 1))
		if !alike(answers, want) || !alike(whole(x), whole(given())) {
			t.Fatalf("%d: %v was written behind its end: %v, %v", i, given(), answers, whole(x))
		}
		for _, part := range [][]impl.Hold{y.Holds, y.Waits} {
			for j := range part {
				part[j] = hold(-1, -1, -1)
			}
		}
		for _, v := range answers {
			if sessions, ok := v.([]int); ok && len(sessions) > 0 {
				sessions[0] = -1
			}
		}
		if again := call(x); !alike(whole(x), whole(given())) || !alike(again, want) {
			t.Errorf("%d: when its answer was written into, %v is %v, and the answer %v", i, given(), whole(x), again)
		}
	}
}

// TestP10OrderOfCodes has several faults in one call: document and table, session, node, mode, a wait already, what is had
// already, room.
func TestP10OrderOfCodes(t *testing.T) {
	right, wrong := table(fullHolds(30), readers(6)...), table(fullHolds(30), readers(7)...)
	long := table(make([]impl.Hold, impl.MaxList+1), make([]impl.Hold, impl.MaxList+1)...)
	none := impl.Doc{}
	bad := [5]int{impl.ErrBad, impl.ErrBad, impl.ErrBad, impl.ErrBad, impl.ErrBad}
	out := [5]int{impl.ErrRange, impl.ErrRange, impl.ErrRange, impl.ErrRange, impl.ErrRange}
	for i, v := range []struct {
		d impl.Doc
		x impl.Table
		h impl.Hold
		// The codes of BlockersOf, CircleOf, LeaveTable, FreeLock and AskLock.
		codes [5]int
	}{
		{none, long, hold(0, 77, 0), bad}, {demoDoc(), long, hold(1, 1, 1), bad}, {demoDoc(), table(nil, long.Waits...), hold(1, 1, 1), bad}, {demoDoc(), table(long.Holds), hold(1, 1, 1), bad},
		{none, wrong, hold(0, 77, 0), bad}, {none, impl.Table{}, hold(1, 1, 1), bad}, {none, right, hold(1, 1, 1), bad}, {chainDoc(7), impl.Table{}, hold(1, 1, 1), bad}, {demoDoc(), wrong, hold(0, 77, 0), bad}, {demoDoc(), wrong, hold(20, 1, 1), bad}, {demoDoc(), table(fullHolds(31)), hold(1000, 77, 6), bad},
		{demoDoc(), right, hold(0, 77, 0), out}, {demoDoc(), right, hold(1000, 1, 1), out}, {demoDoc(), right, hold(-1, 77, 6), out}, {demoDoc(), impl.Table{}, hold(math.MaxInt, 1, 1), out}, {demoDoc(), impl.Table{}, hold(math.MinInt, 0, 0), out},
		// A session that waits, one that holds, and one that does neither.
		{demoDoc(), right, hold(20, 77, 0), [5]int{impl.OK, impl.OK, impl.OK, impl.ErrNone, impl.ErrNone}},
		{demoDoc(), right, hold(20, 1, 0), [5]int{impl.OK, impl.OK, impl.OK, impl.ErrHeld, impl.ErrMode}},
		{demoDoc(), right, hold(20, 1, 1), [5]int{impl.OK, impl.OK, impl.OK, impl.ErrHeld, impl.ErrHeld}},
		{demoDoc(), right, hold(10, 0, 6), [5]int{impl.ErrNone, impl.OK, impl.OK, impl.ErrNone, impl.ErrNone}},
		{demoDoc(), right, hold(10, 1, 6), [5]int{impl.ErrNone, impl.OK, impl.OK, impl.OK, impl.ErrMode}},
		{demoDoc(), right, hold(10, 1, 1), [5]int{impl.ErrNone, impl.OK, impl.OK, impl.OK, impl.OK}},
		{demoDoc(), right, hold(10, 1, 2), [5]int{impl.ErrNone, impl.OK, impl.OK, impl.OK, impl.ErrFull}},
		{demoDoc(), right, hold(999, 9, 1), [5]int{impl.ErrNone, impl.OK, impl.OK, impl.ErrHeld, impl.ErrFull}},
		{demoDoc(), right, hold(999, 10, -1), [5]int{impl.ErrNone, impl.OK, impl.OK, impl.ErrNone, impl.ErrNone}},
		// It waits, and holds what it asks for.
		{demoDoc(), table(holds(hold(3, 4, impl.LkX)), hold(3, 5, impl.LkX)), hold(3, 4, impl.LkX), [5]int{impl.OK, impl.OK, impl.OK, impl.OK, impl.ErrHeld}},
		{demoDoc(), table(fullHolds(30), hold(10, 1, impl.LkX)), hold(10, 4, impl.LkIS), [5]int{impl.OK, impl.OK, impl.OK, impl.OK, impl.ErrHeld}},
	} {
		askTable(t, v.d, v.x, v.h)
		_, blockers := impl.BlockersOf(v.d, v.x, v.h.Session)
		_, circle := impl.CircleOf(v.d, v.x, v.h.Session)
		_, _, leave := impl.LeaveTable(v.d, v.x, v.h.Session)
		_, _, free := impl.FreeLock(v.d, v.x, v.h.Session, v.h.Node)
		_, _, _, ask := impl.AskLock(v.d, v.x, v.h)
		if got := [5]int{blockers, circle, leave, free, ask}; got != v.codes {
			t.Errorf("%d: codes of BlockersOf, CircleOf, LeaveTable, FreeLock and AskLock: %v; want %v", i, got, v.codes)
		}
	}
}

// TestP10WrongNumbers has numbers out of their bounds everywhere, in right tables and in wrong ones.
func TestP10WrongNumbers(t *testing.T) {
	strange := strangeHolds()
	for _, h := range strange {
		for _, x := range []impl.Table{{}, rightTables()[6], rightTables()[len(rightHolds())+3], rightTables()[len(rightHolds())+11], wrongTables()[0]} {
			askTable(t, demoDoc(), x, h)
		}
		askTable(t, impl.Doc{}, impl.Table{}, h)
		askTable(t, demoDoc(), table(holds(h)), hold(1, 1, impl.LkIS))
		askTable(t, demoDoc(), table(nil, h), hold(1, 1, impl.LkIS))
		askTable(t, demoDoc(), table(holds(hold(1, 1, impl.LkX)), hold(2, 5, impl.LkS), h), hold(2, 5, impl.LkIS))
	}
	for i, x := range append(rightTables(), wrongTables()...) {
		askTable(t, demoDoc(), x, strange[i*7%len(strange)])
		askTable(t, demoDoc(), x, hold(2, 3, impl.LkIS))
	}
	for i, d := range wrongDocs() {
		askTable(t, d, impl.Table{}, strange[i*7%len(strange)])
		askTable(t, d, table(fullHolds(3), readers(2)...), hold(20, 1, impl.LkX))
		askTable(t, d, wrongTables()[i%len(wrongTables())], hold(10, 1, impl.LkX))
	}
}
