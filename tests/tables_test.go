package tests

import (
	"math"
	"slices"
	"testing"

	"loop.example/g00701/impl"
)

func TestP10RightTables(t *testing.T) {
	if impl.MaxWaits != 6 {
		t.Error("MaxWaits:", impl.MaxWaits)
	}
	for _, x := range rightTables() {
		if !tableByTheRule(demoDoc(), x) || !impl.TableOK(demoDoc(), x) {
			t.Errorf("TableOK(%v) is false", x)
		}
	}
	for _, x := range wrongTables() {
		if tableByTheRule(demoDoc(), x) || impl.TableOK(demoDoc(), x) {
			t.Errorf("TableOK(%.300v) is true", x)
		}
	}
	for _, d := range wrongDocs() {
		for _, x := range append(rightTables(), wrongTables()...) {
			if impl.TableOK(d, x) {
				t.Fatalf("TableOK(%.300v, %.300v) is true", d, x)
			}
		}
	}
}

// TestP10EdgesOfTables has each number of a wait at its bounds and beyond, and each number of waits.
func TestP10EdgesOfTables(t *testing.T) {
	for i, v := range []struct {
		x     impl.Table
		right bool
	}{
		{impl.Table{}, true}, {impl.Table{Holds: []impl.Hold{}}, true}, {impl.Table{Waits: []impl.Hold{}}, true}, {impl.Table{Holds: []impl.Hold{}, Waits: []impl.Hold{}}, true},
		{table(nil, hold(0, 1, 1)), false}, {table(nil, hold(1, 1, 1)), true}, {table(nil, hold(999, 1, 1)), true}, {table(nil, hold(1000, 1, 1)), false}, {table(nil, hold(-1, 1, 1)), false},
		{table(nil, hold(1, 0, 1)), false}, {table(nil, hold(1, 9, 1)), true}, {table(nil, hold(1, 10, 1)), false}, {table(nil, hold(1, math.MaxInt, 1)), false},
		{table(nil, hold(1, 1, -1)), false}, {table(nil, hold(1, 1, 0)), false}, {table(nil, hold(1, 1, 5)), true}, {table(nil, hold(1, 1, 6)), false},
		// Locks rise; waits are in any order.
		{table(holds(hold(1, 1, 1), hold(2, 1, 1)), hold(2, 1, 1), hold(1, 1, 1)), true}, {table(holds(hold(2, 1, 1), hold(1, 1, 1)), hold(1, 1, 1), hold(2, 1, 1)), false},
		{table(nil, hold(9, 4, 5), hold(3, 6, 5), hold(5, 2, 5)), true}, {table(nil, hold(9, 1, 5), hold(8, 1, 5)), true},
		{table(nil, hold(9, 4, 5), hold(9, 6, 5)), false}, {table(nil, hold(9, 4, 5), hold(9, 4, 5)), false}, {table(nil, hold(9, 4, 5), hold(3, 4, 5), hold(9, 1, 1)), false}, {table(nil, hold(3, 4, 5), hold(9, 4, 5), hold(3, 1, 1)), false},
		{table(nil, readers(5)...), true}, {table(nil, readers(6)...), true}, {table(nil, readers(7)...), false}, {table(nil, readers(8)...), false},
		{table(fullHolds(30), readers(6)...), true}, {table(fullHolds(31), readers(6)...), false}, {table(fullHolds(30), readers(7)...), false}, {table(fullHolds(31)), false},
		// It is not asked that a table keeps the peace, nor that a wait can't be granted.
		{table(holds(hold(1, 1, 5), hold(2, 1, 5))), true}, {table(nil, hold(1, 1, 5)), true}, {table(holds(hold(1, 5, 5)), hold(1, 5, 5)), true},
	} {
		if impl.TableOK(demoDoc(), v.x) != v.right {
			t.Errorf("%d: TableOK(%.300v) is %v", i, v.x, !v.right)
		}
		if _, _, code := impl.SettleTable(demoDoc(), v.x); (code == impl.OK) != v.right || (code == impl.ErrBad) == v.right {
			t.Errorf("%d: SettleTable(%.300v): code %d", i, v.x, code)
		}
	}
}

// TestP10AlikeTables: a table is alike with itself, and with no other one.
func TestP10AlikeTables(t *testing.T) {
	list := rightTables()
	for i, a := range list {
		for j, b := range list {
			if want := alike(a, b); impl.SameTable(a, b) != want || i == j && !want {
				t.Errorf("SameTable(%v, %v) is %v", a, b, !want)
			}
		}
	}
	one, two, three := hold(1, 4, impl.LkX), hold(2, 6, impl.LkX), hold(3, 9, impl.LkS)
	for i, v := range []struct {
		a, b impl.Table
		want bool
	}{
		{table(holds(one, two), three), table(holds(one, two), three), true}, {table(holds(one, two), three), table(holds(two, one), three), false}, {table(nil, one, two), table(nil, two, one), false},
		{table(holds(one, two), three), table(holds(one), two, three), false}, {table(holds(one)), table(nil, one), false}, {table(holds(one, two)), table(holds(one)), false}, {table(holds(one)), table(holds(one, two)), false}, {table(nil, one), table(nil, one, two), false}, {table(holds(one), two), table(holds(one)), false},
		{table(holds(one)), table(holds(hold(1, 4, impl.LkS))), false}, {table(holds(one)), table(holds(hold(1, 5, impl.LkX))), false}, {table(holds(one)), table(holds(hold(2, 4, impl.LkX))), false}, {table(nil, one), table(nil, hold(1, 4, impl.LkS)), false}, {table(nil, one), table(nil, hold(2, 4, impl.LkX)), false},
		// Nil and empty lists.
		{impl.Table{}, impl.Table{Holds: []impl.Hold{}, Waits: []impl.Hold{}}, true}, {table(holds(one)), impl.Table{Holds: holds(one), Waits: []impl.Hold{}}, true}, {impl.Table{Holds: []impl.Hold{}, Waits: holds(one)}, table(nil, one), true}, {impl.Table{}, table(make([]impl.Hold, 1)), false},
		// They need not be right, but short enough.
		{table(make([]impl.Hold, 30), make([]impl.Hold, 6)...), table(make([]impl.Hold, 30), make([]impl.Hold, 6)...), true}, {table(holds(two, one), three, three), table(holds(two, one), three, three), true},
		{table(holds(hold(math.MaxInt, math.MinInt, -1))), table(holds(hold(math.MaxInt, math.MinInt, -1))), true}, {table(holds(hold(math.MaxInt, math.MinInt, -1))), table(holds(hold(math.MaxInt, math.MinInt, -2))), false},
		{table(make([]impl.Hold, 31)), table(make([]impl.Hold, 31)), false}, {table(nil, make([]impl.Hold, 7)...), table(nil, make([]impl.Hold, 7)...), false}, {table(fullHolds(31)), table(fullHolds(31)), false}, {table(fullHolds(30), readers(7)...), table(fullHolds(30), readers(7)...), false},
		{table(fullHolds(30), readers(6)...), table(fullHolds(30), readers(6)...), true}, {table(fullHolds(30)), table(fullHolds(31)), false}, {table(fullHolds(31)), table(fullHolds(30)), false}, {table(nil, readers(6)...), table(nil, readers(7)...), false},
		{table(make([]impl.Hold, impl.MaxList+1)), table(make([]impl.Hold, impl.MaxList+1)), false}, {table(nil, make([]impl.Hold, impl.MaxList+1)...), table(nil, make([]impl.Hold, impl.MaxList+1)...), false},
	} {
		if impl.SameTable(v.a, v.b) != v.want || impl.SameTable(v.b, v.a) != v.want {
			t.Errorf("%d: SameTable(%.300v, %.300v) is not %v both ways", i, v.a, v.b, v.want)
		}
	}
}

// askBlockers holds who stands against a session's wait against the sessions that the test names, and against the words
// of the chapter.
func askBlockers(t *testing.T, x impl.Table, session int, want ...int) {
	t.Helper()
	askTable(t, demoDoc(), x, hold(session, 1, impl.LkIS))
	if got, code := impl.BlockersOf(demoDoc(), x, session); code != impl.OK || !slices.Equal(got, want) {
		t.Errorf("BlockersOf(%v, %d) = %v, %d; want %v", x, session, got, code, want)
	}
}

// TestP10WhoStandsAgainstAWait: by a lock, by a wait ahead, by both, and who does not.
func TestP10WhoStandsAgainstAWait(t *testing.T) {
	x := table(holds(hold(1, 5, impl.LkX)), hold(2, 6, impl.LkS), hold(3, 1, impl.LkS), hold(4, 6, impl.LkX), hold(5, 2, impl.LkX), hold(6, 4, impl.LkS))
	askBlockers(t, x, 2, 1)
	askBlockers(t, x, 3, 1)
	askBlockers(t, x, 4, 1, 2, 3)
	askBlockers(t, x, 5, 3)
	askBlockers(t, x, 6)
	// By a wait alone; one that stands behind stands against nobody, whatever its session's number.
	for _, v := range [][2]int{{2, 3}, {3, 2}, {1, 999}, {999, 1}} {
		ahead, behind := v[0], v[1]
		for _, mode := range []int{impl.LkX, impl.LkS} {
			x = table(nil, hold(ahead, 5, mode), hold(behind, 9, impl.LkX))
			askBlockers(t, x, ahead)
			askBlockers(t, x, behind, ahead)
		}
		x = table(nil, hold(ahead, 9, impl.LkX), hold(behind, 5, impl.LkX))
		askBlockers(t, x, ahead)
		askBlockers(t, x, behind, ahead)
	}
	// Waits that do not rival: beside each other, and such as fit.
	x = table(holds(hold(1, 4, impl.LkX), hold(1, 6, impl.LkX)), hold(3, 4, impl.LkX), hold(2, 6, impl.LkX), hold(5, 6, impl.LkS), hold(4, 6, impl.LkS))
	askBlockers(t, x, 3, 1)
	askBlockers(t, x, 2, 1)
	askBlockers(t, x, 5, 1, 2)
	askBlockers(t, x, 4, 1, 2)
	// By a lock and by a wait at once it is told once; so is who has several locks in the way.
	x = table(holds(hold(7, 6, impl.LkX), hold(7, 9, impl.LkX), hold(8, 2, impl.LkS)), hold(7, 4, impl.LkX), hold(8, 5, impl.LkX), hold(6, 1, impl.LkX))
	askBlockers(t, x, 7)
	askBlockers(t, x, 8, 7)
	askBlockers(t, x, 6, 7, 8)
	// In a table without peace the locks that are at war stand against each other's waits.
	x = table(holds(hold(1, 1, impl.LkX), hold(2, 1, impl.LkX)), hold(2, 9, impl.LkS), hold(1, 9, impl.LkS))
	askBlockers(t, x, 2, 1)
	askBlockers(t, x, 1, 2)
}

// TestP10WhatWaitersHaveCounts: what a session has there already is joined with what it waits for, of both waits.
func TestP10WhatWaitersHaveCounts(t *testing.T) {
	// With its S on node 5 the wait for IX there is one for SIX.
	askBlockers(t, table(holds(hold(1, 5, impl.LkS)), hold(1, 5, impl.LkIX), hold(2, 5, impl.LkS)), 2, 1)
	askBlockers(t, table(nil, hold(1, 5, impl.LkIX), hold(2, 5, impl.LkIX)), 2)
	askBlockers(t, table(holds(hold(1, 5, impl.LkS)), hold(1, 5, impl.LkIX), hold(2, 5, impl.LkIX)), 2, 1)
	askBlockers(t, table(holds(hold(2, 5, impl.LkS)), hold(1, 5, impl.LkS), hold(2, 5, impl.LkIX)), 2, 1)
	// Its X on node 9 is IX on the nodes above.
	askBlockers(t, table(holds(hold(2, 9, impl.LkX)), hold(1, 5, impl.LkS), hold(2, 5, impl.LkIS)), 2, 1)
	askBlockers(t, table(holds(hold(2, 9, impl.LkX)), hold(1, 5, impl.LkS), hold(2, 5, impl.LkIS)), 1, 2)
	askBlockers(t, table(holds(hold(1, 9, impl.LkX)), hold(1, 7, impl.LkS), hold(2, 7, impl.LkS)), 2, 1)
	// From S to X on a node, alone, with a reader, and with another one who means to do so too.
	askBlockers(t, table(holds(hold(1, 5, impl.LkS)), hold(1, 5, impl.LkX)), 1)
	askBlockers(t, table(holds(hold(1, 5, impl.LkS), hold(2, 5, impl.LkS)), hold(1, 5, impl.LkX)), 1, 2)
	askBlockers(t, table(holds(hold(1, 5, impl.LkS), hold(2, 5, impl.LkS)), hold(1, 5, impl.LkX), hold(2, 5, impl.LkX)), 1, 2)
	askBlockers(t, table(holds(hold(1, 5, impl.LkS), hold(2, 5, impl.LkS)), hold(1, 5, impl.LkX), hold(2, 5, impl.LkX)), 2, 1)
}

// TestP10EveryTwoWaits: of two sessions without locks, on one node, one above the other, and beside each other.
func TestP10EveryTwoWaits(t *testing.T) {
	fits := func(a, b int) bool { fits, _ := impl.Compatible(a, b); return fits }
	for _, a := range lockModes() {
		for _, b := range lockModes() {
			needA, _ := impl.IntentOf(a)
			needB, _ := impl.IntentOf(b)
			for _, v := range []struct {
				one, other int
				rival      bool
			}{{7, 7, !fits(a, b)}, {1, 1, !fits(a, b)}, {1, 9, !fits(a, needB)}, {5, 8, !fits(a, needB)}, {9, 1, !fits(needA, b)}, {9, 7, !fits(needA, b)}, {6, 9, false}, {2, 4, false}, {4, 2, false}} {
				var want []int
				if v.rival {
					want = []int{8}
				}
				one, other := hold(8, v.one, a), hold(3, v.other, b)
				askBlockers(t, table(nil, one, other), 8)
				askBlockers(t, table(nil, one, other), 3, want...)
				askBlockers(t, table(holds(one), other), 3, want...)
			}
		}
	}
}
