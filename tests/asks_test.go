package tests

import (
	"testing"

	"loop.example/g00701/impl"
)

// asked is one ask for a lock, and what is to come of it.
type asked struct {
	h       impl.Hold
	code    int
	granted []int
	victims []int
}

// askAll asks for locks one after the other, and holds each answer against what the test names and against the words of
// the chapter; it answers the table then.
func askAll(t *testing.T, d impl.Doc, x impl.Table, list ...asked) impl.Table {
	t.Helper()
	for i, v := range list {
		askTable(t, d, x, v.h)
		y, granted, victims, code := impl.AskLock(d, x, v.h)
		if code != v.code || !alike(granted, v.granted) || !alike(victims, v.victims) || !impl.TableOK(d, y) {
			t.Fatalf("%d: AskLock(%v, %v) = %v, %v, %v, %d; want granted %v, victims %v, code %d", i, x, v.h, y, granted, victims, code, v.granted, v.victims, v.code)
		}
		x = y
	}
	return x
}

// atOnce, waits and refused are what comes of an ask that makes no victim.
func atOnce(session, node, mode int) asked {
	return asked{hold(session, node, mode), impl.OK, []int{session}, nil}
}

func waits(session, node, mode int) asked {
	return asked{hold(session, node, mode), impl.ErrWait, nil, nil}
}

func refused(session, node, mode, code int) asked {
	return asked{hold(session, node, mode), code, nil, nil}
}

func askSame(t *testing.T, got, want impl.Table) {
	t.Helper()
	if !alike(got, want) || !impl.SameTable(got, want) {
		t.Errorf("%v; want %v", got, want)
	}
}

func TestP10GrantedAtOnce(t *testing.T) {
	for _, mode := range lockModes() {
		for node := 1; node <= 9; node++ {
			for _, session := range []int{1, 999} {
				askSame(t, askAll(t, demoDoc(), impl.Table{}, atOnce(session, node, mode)), table(holds(hold(session, node, mode))))
			}
		}
	}
	x := askAll(t, demoDoc(), impl.Table{}, atOnce(4, 9, impl.LkX), atOnce(2, 6, impl.LkS), atOnce(3, 5, impl.LkIX), atOnce(2, 5, impl.LkIS), atOnce(1, 3, impl.LkX), atOnce(4, 8, impl.LkX), atOnce(4, 1, impl.LkIS))
	askSame(t, x, table(holds(hold(1, 3, impl.LkX), hold(2, 5, impl.LkIS), hold(2, 6, impl.LkS), hold(3, 5, impl.LkIX), hold(4, 1, impl.LkIS), hold(4, 8, impl.LkX), hold(4, 9, impl.LkX))))
	askSame(t, askAll(t, demoDoc(), impl.Table{}, atOnce(3, 1, impl.LkS), atOnce(1, 1, impl.LkS), atOnce(2, 9, impl.LkS)), table(holds(hold(1, 1, impl.LkS), hold(2, 9, impl.LkS), hold(3, 1, impl.LkS))))
}

// TestP10EveryTwoLocks: the second lock is granted just if it fits with the first one, on one node, above it and below it.
func TestP10EveryTwoLocks(t *testing.T) {
	for _, d := range []impl.Doc{demoDoc(), chainDoc(impl.MaxDepth), tangledDoc()} {
		last := d.Nodes[len(d.Nodes)-1].Id
		for _, a := range lockModes() {
			for _, b := range lockModes() {
				for _, nodes := range [][2]int{{d.Root, d.Root}, {last, last}, {d.Root, last}, {last, d.Root}, {d.Nodes[1].Id, last}} {
					first, second := hold(5, nodes[0], a), hold(2, nodes[1], b)
					then := waits(second.Session, second.Node, second.Mode)
					if against, _ := impl.ConflictsOf(d, holds(first), second); len(against) == 0 {
						then = atOnce(second.Session, second.Node, second.Mode)
					}
					x := askAll(t, d, impl.Table{}, asked{first, impl.OK, []int{5}, nil}, then)
					if peace, code := impl.Peaceful(d, x.Holds); !peace || code != impl.OK || len(x.Holds)+len(x.Waits) != 2 {
						t.Errorf("%v, then %v: %v", first, second, x)
					}
				}
			}
		}
	}
}

// TestP10WhatASessionHasAlready: a lock no greater than its own there is no ask at all; a greater one is joined with it.
func TestP10WhatASessionHasAlready(t *testing.T) {
	for _, a := range lockModes() {
		for _, b := range lockModes() {
			join, _ := impl.JoinModes(a, b)
			x := table(holds(hold(1, 4, impl.LkX), hold(2, 7, a), hold(2, 8, impl.LkIS)))
			if join == a {
				askSame(t, askAll(t, demoDoc(), x, asked{hold(2, 7, b), impl.OK, nil, nil}), x)
			} else {
				askSame(t, askAll(t, demoDoc(), x, atOnce(2, 7, b)), table(holds(hold(1, 4, impl.LkX), hold(2, 7, join), hold(2, 8, impl.LkIS))))
			}
		}
	}
	// What it has by locks above and below is not its own lock there.
	x := table(holds(hold(1, 5, impl.LkX)))
	askSame(t, askAll(t, demoDoc(), x, atOnce(1, 9, impl.LkS), atOnce(1, 1, impl.LkIS)), table(holds(hold(1, 1, impl.LkIS), hold(1, 5, impl.LkX), hold(1, 9, impl.LkS))))
}

// TestP10NothingIsDone: nobody is granted anything by an ask for what is had already, though there is room for what waits.
func TestP10NothingIsDone(t *testing.T) {
	none := func(session, node, mode int) asked { return asked{hold(session, node, mode), impl.OK, nil, nil} }
	for _, x := range []impl.Table{
		table(holds(hold(1, 5, impl.LkS)), hold(2, 9, impl.LkS)), table(holds(hold(1, 5, impl.LkS)), readers(6)...), table(append(holds(hold(1, 5, impl.LkS)), fullHolds(29)...), readers(6)...),
		table(holds(hold(1, 5, impl.LkS), hold(2, 5, impl.LkS)), hold(2, 5, impl.LkX)), table(holds(hold(1, 5, impl.LkX), hold(2, 5, impl.LkX)), hold(2, 9, impl.LkX)),
	} {
		askSame(t, askAll(t, demoDoc(), x, none(1, 5, impl.LkS), none(1, 5, impl.LkIS)), x)
	}
}

// TestP10FairToWhoCameEarlier: who fits with what is held waits, too, behind a wait that it would stand against.
func TestP10FairToWhoCameEarlier(t *testing.T) {
	for _, v := range [][2]int{{2, 3}, {3, 2}, {999, 998}} {
		x := askAll(t, demoDoc(), impl.Table{}, atOnce(1, 5, impl.LkS), waits(v[0], 5, impl.LkX), waits(v[1], 5, impl.LkS))
		askSame(t, x, table(holds(hold(1, 5, impl.LkS)), hold(v[0], 5, impl.LkX), hold(v[1], 5, impl.LkS)))
		askBlockers(t, x, v[1], v[0])
		// What does not rival it is granted ahead of it.
		x = askAll(t, demoDoc(), x, atOnce(700, 4, impl.LkX), atOnce(700, 1, impl.LkIX), waits(701, 9, impl.LkS), waits(702, 1, impl.LkS))
		askBlockers(t, x, 701, v[0])
		askBlockers(t, x, 702, min(v[0], 700), max(v[0], 700))
	}
	x := askAll(t, demoDoc(), impl.Table{}, atOnce(1, 4, impl.LkX), atOnce(1, 6, impl.LkX), waits(3, 4, impl.LkX), waits(2, 6, impl.LkX))
	askBlockers(t, x, 3, 1)
	askBlockers(t, x, 2, 1)
}

// TestP10FromReadingToWriting: a session with S on a node asks for X there, alone, with other readers, behind waits.
func TestP10FromReadingToWriting(t *testing.T) {
	askSame(t, askAll(t, demoDoc(), impl.Table{}, atOnce(1, 5, impl.LkS), atOnce(1, 5, impl.LkX)), table(holds(hold(1, 5, impl.LkX))))
	x := askAll(t, demoDoc(), impl.Table{}, atOnce(1, 5, impl.LkS), atOnce(2, 5, impl.LkS), waits(1, 5, impl.LkX), refused(1, 5, impl.LkX, impl.ErrHeld))
	askBlockers(t, x, 1, 2)
	y, granted, code := impl.FreeLock(demoDoc(), x, 2, 5)
	if code != impl.OK || !alike(granted, []int{1}) {
		t.Error("FreeLock:", granted, code)
	}
	askSame(t, y, table(holds(hold(1, 5, impl.LkX))))
	// Two who mean to do so: the younger one loses all, whoever asked first.
	askSame(t, askAll(t, demoDoc(), x, asked{hold(2, 5, impl.LkX), impl.ErrVictim, []int{1}, []int{2}}), table(holds(hold(1, 5, impl.LkX))))
	x = askAll(t, demoDoc(), impl.Table{}, atOnce(1, 5, impl.LkS), atOnce(2, 5, impl.LkS), atOnce(2, 4, impl.LkX), waits(2, 5, impl.LkX))
	askSame(t, askAll(t, demoDoc(), x, asked{hold(1, 5, impl.LkX), impl.OK, []int{1}, []int{2}}), table(holds(hold(1, 5, impl.LkX))))
	// Behind the wait of another one, which its S stands against: a circle, too.
	x = askAll(t, demoDoc(), impl.Table{}, atOnce(2, 5, impl.LkS), waits(1, 5, impl.LkX))
	askSame(t, askAll(t, demoDoc(), x, asked{hold(2, 5, impl.LkX), impl.ErrVictim, []int{1}, []int{2}}), table(holds(hold(1, 5, impl.LkX))))
	x = askAll(t, demoDoc(), impl.Table{}, atOnce(1, 5, impl.LkS), waits(2, 5, impl.LkX))
	askSame(t, askAll(t, demoDoc(), x, asked{hold(1, 5, impl.LkX), impl.OK, []int{1}, []int{2}}), table(holds(hold(1, 5, impl.LkX))))
}

func TestP10AskRefused(t *testing.T) {
	x := askAll(t, demoDoc(), impl.Table{}, atOnce(1, 5, impl.LkX), waits(2, 6, impl.LkS))
	askSame(t, askAll(t, demoDoc(), x, refused(2, 1, impl.LkS, impl.ErrHeld), refused(2, 6, impl.LkS, impl.ErrHeld), refused(2, 4, impl.LkX, impl.ErrHeld), refused(3, 77, impl.LkS, impl.ErrNone), refused(3, 0, impl.LkS, impl.ErrNone), refused(3, 1, 0, impl.ErrMode), refused(3, 1, 6, impl.ErrMode), refused(3, 1, -1, impl.ErrMode)), x)
	// A session that holds what it asks for, but waits for something else.
	x = table(holds(hold(2, 4, impl.LkX)), hold(2, 6, impl.LkS))
	askSame(t, askAll(t, demoDoc(), x, refused(2, 4, impl.LkX, impl.ErrHeld), refused(2, 4, impl.LkS, impl.ErrHeld)), x)
}

// TestP10FullOfHolds: MaxHolds locks and one more; a lock where the session has one takes no room.
func TestP10FullOfHolds(t *testing.T) {
	full, room := table(fullHolds(30)), table(fullHolds(29))
	askSame(t, askAll(t, demoDoc(), room, atOnce(13, 3, impl.LkIS)), full)
	for _, v := range []asked{refused(13, 4, impl.LkIS, impl.ErrFull), refused(1, 1, impl.LkIS, impl.ErrFull), refused(999, 9, impl.LkX, impl.ErrFull), refused(10, 77, impl.LkIS, impl.ErrNone), refused(1, 1, 0, impl.ErrMode)} {
		askSame(t, askAll(t, demoDoc(), full, v), full)
	}
	askSame(t, askAll(t, demoDoc(), full, asked{hold(13, 3, impl.LkIS), impl.OK, nil, nil}), full)
	then := askAll(t, demoDoc(), full, atOnce(13, 3, impl.LkIX), waits(10, 1, impl.LkX))
	if len(then.Holds) != 30 || then.Holds[29] != hold(13, 3, impl.LkIX) {
		t.Error(then)
	}
	askAll(t, demoDoc(), room, waits(1, 9, impl.LkX), atOnce(13, 3, impl.LkIS), refused(2, 9, impl.LkX, impl.ErrFull))
}

// TestP10FullOfWaits: MaxWaits waits and one more, also of what could be granted at once.
func TestP10FullOfWaits(t *testing.T) {
	x := askAll(t, demoDoc(), impl.Table{}, atOnce(1, 5, impl.LkX), atOnce(9, 4, impl.LkS))
	for _, session := range []int{40, 2, 60, 3, 50} {
		x = askAll(t, demoDoc(), x, waits(session, 5, impl.LkS))
	}
	askAll(t, demoDoc(), x, atOnce(7, 2, impl.LkX), waits(8, 5, impl.LkS))
	x = askAll(t, demoDoc(), x, waits(4, 5, impl.LkS))
	askSame(t, askAll(t, demoDoc(), x, refused(8, 5, impl.LkS, impl.ErrFull), refused(8, 2, impl.LkX, impl.ErrFull), refused(1, 5, impl.LkX, impl.OK), refused(9, 4, impl.LkX, impl.ErrFull), refused(9, 4, impl.LkS, impl.OK), refused(1, 6, impl.LkX, impl.ErrFull), refused(4, 5, impl.LkS, impl.ErrHeld), refused(8, 77, impl.LkS, impl.ErrNone), refused(8, 2, 6, impl.ErrMode)), x)
	y, granted, code := impl.FreeLock(demoDoc(), x, 1, 5)
	if code != impl.OK || !alike(granted, []int{40, 2, 60, 3, 50, 4}) || len(y.Waits) > 0 || len(y.Holds) != 7 {
		t.Error("FreeLock:", y, granted, code)
	}
	// Room for waits, but none for holds, and neither.
	full := table(fullHolds(30), readers(6)...)
	askSame(t, askAll(t, demoDoc(), full, refused(1, 1, impl.LkIS, impl.ErrFull), refused(10, 1, impl.LkIX, impl.ErrFull)), full)
}

// TestP10RootAndDeepDocuments: X on Root stands alone; on one path all waits rival.
func TestP10RootAndDeepDocuments(t *testing.T) {
	d := chainDoc(impl.MaxDepth)
	x := askAll(t, d, impl.Table{}, atOnce(1, 1, impl.LkX), waits(7, 6, impl.LkIS), waits(6, 5, impl.LkIS), waits(5, 1, impl.LkX), waits(4, 6, impl.LkIS), waits(3, 3, impl.LkX), waits(2, 2, impl.LkX))
	for session, want := range map[int][]int{7: {1}, 6: {1}, 5: {1, 6, 7}, 4: {1, 5}, 3: {1, 4, 5, 6, 7}, 2: {1, 3, 4, 5, 6, 7}} {
		if got, code := impl.BlockersOf(d, x, session); code != impl.OK || !alike(got, want) {
			t.Errorf("BlockersOf %d = %v, %d; want %v", session, got, code, want)
		}
	}
	for _, want := range []struct {
		leaves  int
		granted []int
	}{{1, []int{7, 6}}, {6, nil}, {7, []int{5}}, {5, []int{4}}, {4, []int{3}}, {3, []int{2}}, {2, nil}} {
		askTable(t, d, x, hold(want.leaves, 6, impl.LkX))
		y, granted, code := impl.LeaveTable(d, x, want.leaves)
		if code != impl.OK || !alike(granted, want.granted) {
			t.Fatalf("LeaveTable(%v, %d) = %v, %v, %d", x, want.leaves, y, granted, code)
		}
		x = y
	}
	askSame(t, x, impl.Table{})
}
