package tests

import (
	"slices"
	"testing"

	"loop.example/g00701/impl"
)

// askSettled holds what SettleTable makes of a table against what the test names.
func askSettled(t *testing.T, x impl.Table, locks []impl.Hold, left []impl.Hold, granted ...int) {
	t.Helper()
	askTable(t, demoDoc(), x, hold(1, 1, impl.LkIS))
	y, got, code := impl.SettleTable(demoDoc(), x)
	if code != impl.OK || !alike(got, granted) || !alike(y, table(locks, left...)) {
		t.Errorf("SettleTable(%v) = %v, %v, %d; want %v, %v, granted %v", x, y, got, code, locks, left, granted)
	}
}

func TestP10Settled(t *testing.T) {
	askSettled(t, impl.Table{}, nil, nil)
	askSettled(t, impl.Table{Holds: []impl.Hold{}, Waits: []impl.Hold{}}, nil, nil)
	askSettled(t, table(fullHolds(30)), fullHolds(30), nil)
	one, two := hold(1, 5, impl.LkX), hold(2, 9, impl.LkS)
	askSettled(t, table(nil, one), holds(one), nil, 1)
	askSettled(t, table(nil, one, two), holds(one), holds(two), 1)
	askSettled(t, table(nil, two, one), holds(two), holds(one), 2)
	askSettled(t, table(holds(one), two), holds(one), holds(two))
	// In their order, not in that of their sessions; one that can't be granted is passed by.
	askSettled(t, table(nil, hold(9, 5, impl.LkS), hold(4, 5, impl.LkS), hold(6, 5, impl.LkS)), holds(hold(4, 5, impl.LkS), hold(6, 5, impl.LkS), hold(9, 5, impl.LkS)), nil, 9, 4, 6)
	askSettled(t, table(nil, hold(9, 5, impl.LkS), hold(4, 6, impl.LkX), hold(6, 4, impl.LkX)), holds(hold(6, 4, impl.LkX), hold(9, 5, impl.LkS)), holds(hold(4, 6, impl.LkX)), 9, 6)
	askSettled(t, table(nil, hold(9, 5, impl.LkS), hold(4, 6, impl.LkX), hold(6, 6, impl.LkS), hold(3, 9, impl.LkS)), holds(hold(3, 9, impl.LkS), hold(9, 5, impl.LkS)), holds(hold(4, 6, impl.LkX), hold(6, 6, impl.LkS)), 9, 3)
	askSettled(t, table(holds(hold(1, 9, impl.LkX)), hold(9, 5, impl.LkS), hold(4, 6, impl.LkS), hold(6, 6, impl.LkX), hold(3, 2, impl.LkX)), holds(hold(1, 9, impl.LkX), hold(3, 2, impl.LkX), hold(4, 6, impl.LkS)), holds(hold(9, 5, impl.LkS), hold(6, 6, impl.LkX)), 4, 3)
	// Joined with what the session has there: less, as much, more, and IX with S.
	for _, v := range []struct{ has, waits, then int }{{impl.LkX, impl.LkS, impl.LkX}, {impl.LkS, impl.LkS, impl.LkS}, {impl.LkS, impl.LkX, impl.LkX}, {impl.LkS, impl.LkIX, impl.LkSIX}, {impl.LkIX, impl.LkS, impl.LkSIX}, {impl.LkIS, impl.LkIX, impl.LkIX}} {
		askSettled(t, table(holds(hold(3, 4, impl.LkX), hold(5, 7, v.has)), hold(5, 7, v.waits)), holds(hold(3, 4, impl.LkX), hold(5, 7, v.then)), nil, 5)
	}
}

// TestP10RoomForWaits: a wait for which there is no room is passed by; one where its session has a lock takes none.
func TestP10RoomForWaits(t *testing.T) {
	small, other, same := hold(1, 9, impl.LkIS), hold(2, 4, impl.LkIS), hold(10, 1, impl.LkIX)
	turned := func(locks int) []impl.Hold { list := fullHolds(locks); list[0] = same; return list }
	askSettled(t, table(fullHolds(30), small), fullHolds(30), holds(small))
	askSettled(t, table(fullHolds(30), small, same), turned(30), holds(small), 10)
	askSettled(t, table(fullHolds(30), same, small), turned(30), holds(small), 10)
	askSettled(t, table(fullHolds(29), small, other, same), slices.Concat(holds(small), turned(29)), holds(other), 1, 10)
	askSettled(t, table(fullHolds(29), other, same, small), slices.Concat(holds(other), turned(29)), holds(small), 2, 10)
	askSettled(t, table(fullHolds(28), small, same, other), slices.Concat(holds(small, other), turned(28)), nil, 1, 10, 2)
	askBlockers(t, table(fullHolds(30), small, other), 1)
	askBlockers(t, table(fullHolds(30), small, other), 2)
	// There is no room for the one ahead, and it stands against the one behind.
	write, read := hold(1, 1, impl.LkIX), hold(10, 1, impl.LkS)
	askSettled(t, table(fullHolds(30), write, read), fullHolds(30), holds(write, read))
}

// TestP10RoomThatComes: waits that asks led to stay where there is no room, and are granted as soon as there is.
func TestP10RoomThatComes(t *testing.T) {
	var readers []impl.Hold
	for i := range 28 {
		readers = append(readers, hold(10+i/8, 1+i%8, impl.LkIS))
	}
	x := askAll(t, demoDoc(), table(readers), atOnce(1, 9, impl.LkX), waits(3, 9, impl.LkS), waits(2, 9, impl.LkS), waits(4, 9, impl.LkS), atOnce(5, 2, impl.LkS), refused(6, 1, impl.LkIS, impl.ErrFull))
	x = askFreed(t, x, 1, 9, 3)
	askBlockers(t, x, 2)
	x = askFreed(t, x, 10, 1, 2)
	x = askLeft(t, x, 5, 4)
	if len(x.Holds) != 30 || len(x.Waits) > 0 {
		t.Error(x)
	}
}

// askFreed holds those who are granted their locks behind FreeLock against whom the test names; it answers the table then.
func askFreed(t *testing.T, x impl.Table, session, node int, want ...int) impl.Table {
	t.Helper()
	askTable(t, demoDoc(), x, hold(session, node, impl.LkX))
	y, granted, code := impl.FreeLock(demoDoc(), x, session, node)
	if code != impl.OK || !alike(granted, want) {
		t.Fatalf("FreeLock(%v, %d, %d) = %v, %v, %d; want %v", x, session, node, y, granted, code, want)
	}
	return y
}

func askLeft(t *testing.T, x impl.Table, session int, want ...int) impl.Table {
	t.Helper()
	askTable(t, demoDoc(), x, hold(session, 1, impl.LkX))
	y, granted, code := impl.LeaveTable(demoDoc(), x, session)
	if code != impl.OK || !alike(granted, want) {
		t.Fatalf("LeaveTable(%v, %d) = %v, %v, %d; want %v", x, session, y, granted, code, want)
	}
	return y
}

// TestP10Freed: nobody, one and several waits are granted behind a lock that is gone.
func TestP10Freed(t *testing.T) {
	x := askAll(t, demoDoc(), impl.Table{}, atOnce(1, 4, impl.LkX), atOnce(1, 6, impl.LkX), atOnce(1, 9, impl.LkX), waits(8, 1, impl.LkS), waits(4, 4, impl.LkS), waits(7, 5, impl.LkS), waits(2, 9, impl.LkX), waits(3, 4, impl.LkIS))
	x = askFreed(t, x, 1, 4, 4, 3)
	x = askFreed(t, x, 1, 6)
	x = askFreed(t, x, 4, 4)
	x = askFreed(t, x, 1, 9, 8, 7)
	askSame(t, x, table(holds(hold(3, 4, impl.LkIS), hold(7, 5, impl.LkS), hold(8, 1, impl.LkS)), hold(2, 9, impl.LkX)))
	x = askFreed(t, x, 7, 5)
	x = askFreed(t, x, 8, 1, 2)
	askSame(t, x, table(holds(hold(2, 9, impl.LkX), hold(3, 4, impl.LkIS))))
	askSame(t, askFreed(t, askFreed(t, x, 3, 4), 2, 9), impl.Table{})
	// A session that waits frees what stands in its own way for another one.
	x = askAll(t, demoDoc(), impl.Table{}, atOnce(1, 4, impl.LkX), atOnce(2, 6, impl.LkX), waits(1, 6, impl.LkS), waits(3, 4, impl.LkS))
	x = askFreed(t, x, 1, 4, 3)
	askSame(t, x, table(holds(hold(2, 6, impl.LkX), hold(3, 4, impl.LkS)), hold(1, 6, impl.LkS)))
	// Of several locks of a session just the one goes.
	x = table(holds(hold(1, 5, impl.LkX), hold(1, 6, impl.LkX), hold(2, 4, impl.LkX)), hold(3, 6, impl.LkS))
	askSame(t, askFreed(t, x, 1, 5), table(holds(hold(1, 6, impl.LkX), hold(2, 4, impl.LkX)), hold(3, 6, impl.LkS)))
}

func TestP10FreeRefused(t *testing.T) {
	x := table(holds(hold(1, 5, impl.LkX), hold(2, 4, impl.LkX)), hold(3, 6, impl.LkS), hold(4, 2, impl.LkS))
	for _, v := range []struct{ session, node, code int }{
		{1, 6, impl.ErrHeld}, {1, 1, impl.ErrHeld}, {2, 5, impl.ErrHeld}, {3, 6, impl.ErrHeld}, {4, 2, impl.ErrHeld}, {999, 1, impl.ErrHeld},
		{1, 77, impl.ErrNone}, {1, 0, impl.ErrNone}, {1, -1, impl.ErrNone}, {1, 10, impl.ErrNone}, {999, 10, impl.ErrNone},
	} {
		askTable(t, demoDoc(), x, hold(v.session, v.node, impl.LkX))
		y, granted, code := impl.FreeLock(demoDoc(), x, v.session, v.node)
		if code != v.code || len(granted) > 0 {
			t.Errorf("FreeLock(%v, %d, %d) = %v, %v, %d", x, v.session, v.node, y, granted, code)
		}
		askSame(t, y, x)
	}
}

// TestP10Left: who leaves has nothing, and what it held or waited for stands in nobody's way.
func TestP10Left(t *testing.T) {
	x := askAll(t, demoDoc(), impl.Table{}, atOnce(1, 4, impl.LkX), atOnce(1, 6, impl.LkX), atOnce(5, 9, impl.LkS), waits(8, 1, impl.LkX), waits(4, 4, impl.LkS), waits(7, 5, impl.LkS), waits(2, 2, impl.LkIS))
	askSame(t, askLeft(t, x, 999), x)
	askSame(t, askLeft(t, x, 5), table(x.Holds[:2], x.Waits...))
	// A wait alone goes: what stood behind it and fits with what is held is granted.
	askSame(t, askLeft(t, x, 8, 2), table(append(x.Holds[:2:2], hold(2, 2, impl.LkIS), x.Holds[2]), x.Waits[1:3]...))
	// All locks of a session go.
	x = askLeft(t, x, 1)
	askSame(t, x, table(holds(hold(5, 9, impl.LkS)), hold(8, 1, impl.LkX), hold(4, 4, impl.LkS), hold(7, 5, impl.LkS), hold(2, 2, impl.LkIS)))
	x = askLeft(t, x, 5, 8)
	x = askLeft(t, x, 8, 4, 7, 2)
	askSame(t, x, table(holds(hold(2, 2, impl.LkIS), hold(4, 4, impl.LkS), hold(7, 5, impl.LkS))))
	// Locks and a wait of one session go together.
	x = askAll(t, demoDoc(), impl.Table{}, atOnce(1, 6, impl.LkX), atOnce(2, 4, impl.LkX), atOnce(2, 9, impl.LkX), waits(2, 6, impl.LkX), waits(3, 6, impl.LkS), waits(4, 4, impl.LkS))
	askSame(t, askLeft(t, x, 2, 4), table(holds(hold(1, 6, impl.LkX), hold(4, 4, impl.LkS)), hold(3, 6, impl.LkS)))
	askSame(t, askLeft(t, impl.Table{}, 1), impl.Table{})
	// What could be granted ahead of it is granted too, though nobody goes.
	askSame(t, askLeft(t, table(nil, hold(3, 4, impl.LkX)), 5, 3), table(holds(hold(3, 4, impl.LkX))))
}

// TestP10AGrantTurnsNobodysBlockers: a wait that is granted stands where it stood against others, and nobody is granted a
// lock only because another one was.
func TestP10AGrantTurnsNobodysBlockers(t *testing.T) {
	throw := &dice{149}
	var several, left tally
	for range 3000 {
		d := thrownDoc(throw, 9)
		x := thrownTable(throw, d, 5, 6)
		y, granted, code := impl.SettleTable(d, x)
		if code != impl.OK {
			t.Fatalf("SettleTable(%v, %v): code %d", d, x, code)
		}
		var free []int
		for _, w := range x.Waits {
			before, _ := impl.BlockersOf(d, x, w.Session)
			after, code := impl.BlockersOf(d, y, w.Session)
			if len(before) == 0 {
				free = append(free, w.Session)
			} else if code != impl.OK || !alike(before, after) {
				t.Fatalf("BlockersOf %d in %v of %v: %v, settled %v, %d", w.Session, x, d, before, after, code)
			}
		}
		if !alike(granted, free) {
			t.Fatalf("SettleTable(%v, %v) granted %v; free were %v", d, x, granted, free)
		}
		several.count(len(granted) > 1)
		left.count(len(y.Waits) > 0)
	}
	if several.yes < 500 || left.yes < 500 {
		t.Error("too few of one sort:", several, left)
	}
}

func TestP10ThrownTables(t *testing.T) {
	throw := &dice{151}
	codes := map[int]int{}
	for range 6000 {
		d := thrownDoc(throw, 9)
		x, h := thrownTable(throw, d, 8, 6), thrownWait(throw, d)
		askTable(t, d, x, h)
		_, _, _, code := impl.AskLock(d, x, h)
		codes[code]++
	}
	for _, code := range []int{impl.OK, impl.ErrWait, impl.ErrVictim, impl.ErrHeld} {
		if codes[code] < 100 {
			t.Error("too few of code", code, codes)
		}
	}
}

func TestP10DocumentsOfAllSorts(t *testing.T) {
	throw := &dice{157}
	for _, d := range rightDocs() {
		for range 3 {
			x := thrownTable(throw, d, 6, 6)
			askTable(t, d, x, thrownWait(throw, d))
			askTable(t, d, x, hold(5, d.Root, 1+throw.below(5)))
			askTable(t, d, impl.Table{}, hold(999, d.Root, impl.LkX))
		}
	}
}
