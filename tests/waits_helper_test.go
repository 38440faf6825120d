package tests

import (
	"math"
	"slices"
	"testing"

	"loop.example/g00701/impl"
)

func table(holds []impl.Hold, waits ...impl.Hold) impl.Table {
	return impl.Table{Holds: holds, Waits: waits}
}

func holds(list ...impl.Hold) []impl.Hold {
	return list
}

// readers are so many waits for the Root, of sessions from 20 on; they do not rival each other.
func readers(waits int) []impl.Hold {
	var list []impl.Hold
	for i := range waits {
		list = append(list, hold(20+i, 1, impl.LkS))
	}
	return list
}

// rightTables are of the demo document.
func rightTables() []impl.Table {
	var list []impl.Table
	for _, locks := range rightHolds() {
		list = append(list, table(locks))
	}
	return append(list,
		impl.Table{Waits: []impl.Hold{}}, impl.Table{Holds: []impl.Hold{}, Waits: []impl.Hold{}}, table(nil, readers(6)...), table(fullHolds(30), readers(6)...),
		table(nil, hold(1, 1, impl.LkX)), table(nil, hold(999, 9, impl.LkIS)), table(nil, hold(9, 4, impl.LkX), hold(3, 4, impl.LkX), hold(5, 1, impl.LkX)),
		// A session with locks that waits: for the same lock, for a lesser one, for more, elsewhere.
		table(holds(hold(1, 5, impl.LkS)), hold(1, 5, impl.LkS)), table(holds(hold(1, 5, impl.LkX)), hold(1, 5, impl.LkS)), table(holds(hold(1, 5, impl.LkS)), hold(1, 5, impl.LkX)), table(holds(hold(1, 5, impl.LkS)), hold(1, 1, impl.LkX)),
		table(holds(hold(1, 5, impl.LkS), hold(2, 5, impl.LkS)), hold(2, 5, impl.LkX), hold(1, 5, impl.LkX)),
		table(holds(hold(1, 4, impl.LkX), hold(2, 6, impl.LkX)), hold(1, 6, impl.LkS), hold(2, 4, impl.LkS), hold(3, 4, impl.LkS)),
		table(holds(hold(1, 2, impl.LkX), hold(2, 4, impl.LkX), hold(3, 6, impl.LkX)), hold(3, 2, impl.LkS), hold(2, 2, impl.LkS)),
		table(fullHolds(30), hold(1, 9, impl.LkIS), hold(10, 1, impl.LkIX), hold(999, 1, impl.LkX)), table(fullHolds(29), hold(7, 9, impl.LkIS), hold(4, 9, impl.LkIS), hold(11, 2, impl.LkIX)),
	)
}

// wrongTables break each sentence of chapter 9 on the demo document.
func wrongTables() []impl.Table {
	one, two := hold(2, 3, impl.LkIS), hold(5, 5, impl.LkX)
	list := []impl.Table{
		table(nil, readers(7)...), table(fullHolds(30), readers(7)...), table(nil, make([]impl.Hold, 1)...), table(nil, make([]impl.Hold, 7)...),
		table(nil, make([]impl.Hold, impl.MaxList)...), table(nil, make([]impl.Hold, impl.MaxList+1)...), table(nil, slices.Repeat(holds(one), impl.MaxList+1)...), table(fullHolds(3), readers(impl.MaxList+1)...),
		// Two waits of one session, one behind the other or not, alike or not.
		table(nil, one, one), table(nil, one, hold(2, 3, impl.LkX)), table(nil, one, hold(2, 9, impl.LkIS)), table(nil, one, two, one), table(nil, hold(1, 1, 1), one, two, hold(2, 1, 1)), table(nil, two, hold(5, 4, impl.LkS), one),
	}
	for _, locks := range wrongHolds() {
		list = append(list, table(locks), table(locks, one), table(locks, readers(6)...))
		if len(locks) == 1 {
			list = append(list, table(nil, locks[0]), table(nil, one, locks[0]), table(fullHolds(30), locks[0], two))
		}
	}
	for _, n := range []int{math.MinInt, -1, 0, 1000, math.MaxInt} {
		list = append(list, table(nil, append(readers(5), hold(n, 1, 1))...))
	}
	return list
}

// thrownTable is a right table; its locks keep the peace in about one half of all.
func thrownTable(throw *dice, d impl.Doc, mostHolds, mostWaits int) impl.Table {
	x := table(thrownHolds(throw, d, mostHolds))
	if throw.below(2) == 0 {
		x.Holds = thrownPeace(throw, d, mostHolds)
	}
	for range throw.below(mostWaits + 1) {
		w := thrownWait(throw, d)
		if !slices.ContainsFunc(x.Waits, func(o impl.Hold) bool { return o.Session == w.Session }) {
			x.Waits = append(x.Waits, w)
		}
	}
	return x
}

// thrownWait is of more sessions than there may be waits.
func thrownWait(throw *dice, d impl.Doc) impl.Hold {
	h := thrownHold(throw, d)
	h.Session = []int{1, 2, 3, 4, 77, 500, 998, 999}[throw.below(8)]
	return h
}

// askTable holds all calls on tables against the words of the chapter.
func askTable(t *testing.T, d impl.Doc, x impl.Table, h impl.Hold) {
	t.Helper()
	ask := func(name string, got, want []any) {
		t.Helper()
		for i := range got {
			if !alike(got[i], want[i]) {
				t.Fatalf("%s(%.400v, %.400v, %v) = %v; want %v", name, d, x, h, got, want)
			}
		}
	}
	ask("TableOK", all(impl.TableOK(d, x)), all(tableByTheRule(d, x)))
	ask("BlockersOf", all(impl.BlockersOf(d, x, h.Session)), all(blockersByTheRule(d, x, h.Session)))
	ask("CircleOf", all(impl.CircleOf(d, x, h.Session)), all(circleByTheRule(d, x, h.Session)))
	ask("SettleTable", all(impl.SettleTable(d, x)), all(settleByTheRule(d, x)))
	ask("LeaveTable", all(impl.LeaveTable(d, x, h.Session)), all(leaveByTheRule(d, x, h.Session)))
	ask("FreeLock", all(impl.FreeLock(d, x, h.Session, h.Node)), all(freeByTheRule(d, x, h.Session, h.Node)))
	ask("AskLock", all(impl.AskLock(d, x, h)), all(askLockByTheRule(d, x, h)))
}

func all(answers ...any) []any {
	return answers
}

// The same things by the words of chapter 9, slowly.

func tableByTheRule(d impl.Doc, x impl.Table) bool {
	if !holdsByTheRule(d, x.Holds) || len(x.Waits) > 6 {
		return false
	}
	for i, w := range x.Waits {
		if !holdsByTheRule(d, holds(w)) || slices.ContainsFunc(x.Waits[:i], func(o impl.Hold) bool { return o.Session == w.Session }) {
			return false
		}
	}
	return true
}

func tableCodeByTheRule(d impl.Doc, x impl.Table, session int) int {
	switch {
	case !tableByTheRule(d, x):
		return impl.ErrBad
	case session < 1 || session > 999:
		return impl.ErrRange
	}
	return impl.OK
}

func waitByTheRule(x impl.Table, session int) int {
	return slices.IndexFunc(x.Waits, func(w impl.Hold) bool { return w.Session == session })
}

func rivalByTheRule(d impl.Doc, x impl.Table, a, b impl.Hold) bool {
	for _, node := range pathByTheRule(d, a.Node) {
		both := slices.Contains(pathByTheRule(d, b.Node), node)
		if both && !fitsByTheRule(wantedByTheRule(d, x.Holds, a, node), wantedByTheRule(d, x.Holds, b, node)) {
			return true
		}
	}
	return false
}

// standByTheRule are the sessions that stand against the wait at a place.
func standByTheRule(d impl.Doc, x impl.Table, place int) []int {
	list := againstByTheRule(d, x.Holds, x.Waits[place])
	for _, ahead := range x.Waits[:place] {
		if rivalByTheRule(d, x, ahead, x.Waits[place]) {
			list = append(list, ahead.Session)
		}
	}
	slices.Sort(list)
	return slices.Compact(list)
}

func blockersByTheRule(d impl.Doc, x impl.Table, session int) ([]int, int) {
	if code := tableCodeByTheRule(d, x, session); code != impl.OK {
		return nil, code
	}
	place := waitByTheRule(x, session)
	if place < 0 {
		return nil, impl.ErrNone
	}
	return standByTheRule(d, x, place), impl.OK
}

func circleByTheRule(d impl.Doc, x impl.Table, session int) ([]int, int) {
	if code := tableCodeByTheRule(d, x, session); code != impl.OK {
		return nil, code
	}
	sessions := sessionsByTheRule(slices.Concat(x.Holds, x.Waits))
	come := map[[2]int]bool{}
	for place, w := range x.Waits {
		for _, other := range standByTheRule(d, x, place) {
			come[[2]int{w.Session, other}] = true
		}
	}
	for _, by := range sessions {
		for _, from := range sessions {
			for _, to := range sessions {
				if come[[2]int{from, by}] && come[[2]int{by, to}] {
					come[[2]int{from, to}] = true
				}
			}
		}
	}
	var circle []int
	for _, other := range sessions {
		if come[[2]int{session, other}] && come[[2]int{other, session}] {
			circle = append(circle, other)
		}
	}
	return circle, impl.OK
}

func settleByTheRule(d impl.Doc, x impl.Table) (impl.Table, []int, int) {
	if !tableByTheRule(d, x) {
		return impl.Table{}, nil, impl.ErrBad
	}
	for place, w := range x.Waits {
		with, code := putByTheRule(d, x.Holds, w)
		if code != impl.OK || len(standByTheRule(d, x, place)) > 0 {
			continue
		}
		then, granted, _ := settleByTheRule(d, table(with, slices.Delete(slices.Clone(x.Waits), place, place+1)...))
		return then, append([]int{w.Session}, granted...), impl.OK
	}
	return x, nil, impl.OK
}

func withoutByTheRule(x impl.Table, session int) impl.Table {
	gone := func(h impl.Hold) bool { return h.Session == session }
	return table(slices.DeleteFunc(slices.Clone(x.Holds), gone), slices.DeleteFunc(slices.Clone(x.Waits), gone)...)
}

func leaveByTheRule(d impl.Doc, x impl.Table, session int) (impl.Table, []int, int) {
	if code := tableCodeByTheRule(d, x, session); code != impl.OK {
		return impl.Table{}, nil, code
	}
	return settleByTheRule(d, withoutByTheRule(x, session))
}

func freeByTheRule(d impl.Doc, x impl.Table, session, node int) (impl.Table, []int, int) {
	if code := tableCodeByTheRule(d, x, session); code != impl.OK {
		return impl.Table{}, nil, code
	}
	without, code := dropByTheRule(d, x.Holds, session, node)
	if code != impl.OK {
		return x, nil, code
	}
	return settleByTheRule(d, table(without, x.Waits...))
}

func askLockByTheRule(d impl.Doc, x impl.Table, h impl.Hold) (impl.Table, []int, []int, int) {
	if code := tableCodeByTheRule(d, x, h.Session); code != impl.OK {
		return impl.Table{}, nil, nil, code
	}
	if code := holdCodeByTheRule(d, x.Holds, h); code != impl.OK {
		return x, nil, nil, code
	}
	if waitByTheRule(x, h.Session) >= 0 {
		return x, nil, nil, impl.ErrHeld
	}
	with, code := putByTheRule(d, x.Holds, h)
	if code == impl.OK && alike(with, x.Holds) {
		return x, nil, nil, impl.OK
	}
	if code != impl.OK || len(x.Waits) > 5 {
		return x, nil, nil, impl.ErrFull
	}
	x = table(x.Holds, append(slices.Clone(x.Waits), h)...)
	var victims []int
	for {
		circle, _ := circleByTheRule(d, x, h.Session)
		if len(circle) == 0 {
			break
		}
		victims = append(victims, circle[len(circle)-1])
		x = withoutByTheRule(x, circle[len(circle)-1])
	}
	x, granted, _ := settleByTheRule(d, x)
	switch {
	case slices.Contains(victims, h.Session):
		code = impl.ErrVictim
	case !slices.Contains(granted, h.Session):
		code = impl.ErrWait
	}
	return x, granted, victims, code
}
