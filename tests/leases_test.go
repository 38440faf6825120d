package tests

import (
	"slices"
	"testing"

	"loop.example/g00701/impl"
)

// TestP15Open: MaxOpen sessions and one more, and numbers up to the last one.
func TestP15Open(t *testing.T) {
	h := askHost(t, demoHost(), done(opening(), 1), done(opening(), 2), done(ticking(7), 0), done(opening(), 3), done(opening(), 4), done(opening(), 5), done(opening(), 6), denied(opening(), impl.ErrFull))
	for i, until := range []int{50, 50, 57, 57, 57, 57} {
		if s, code := impl.SessionOf(h, i+1); code != impl.OK || !alike(s, impl.Session{Id: i + 1, Until: until}) {
			t.Error(s, code)
		}
	}
	// Its number is nobody's again.
	h = askHost(t, h, done(closing(3), 0), done(opening(), 7), denied(opening(), impl.ErrFull), denied(closing(3), impl.ErrLapsed), done(closing(7), 0), done(closing(6), 0), done(opening(), 8))
	h.Next = 998
	h = askHost(t, h, done(opening(), 998), done(closing(998), 0), done(opening(), 999), denied(opening(), impl.ErrFull), done(closing(999), 0), denied(opening(), impl.ErrFull), done(closing(1), 0), denied(opening(), impl.ErrFull))
	if h.Next != 1000 {
		t.Error("Next:", h.Next)
	}
	for _, lease := range []int{1, 500} {
		h = turnedHost(demoHost(), func(h *impl.Host) { h.Lease, h.Clock = lease, 999999 })
		h = askHost(t, h, done(opening(), 1), denied(ticking(1), impl.ErrFull), denied(ticking(500), impl.ErrFull), done(renewing(1), 999999+lease))
		if h.Sessions[0].Until != 999999+lease || h.Clock != 999999 {
			t.Error(h)
		}
	}
}

// TestP15Close: a session goes with all that it has, and who waited for that is granted it; nobody is told of its own wait.
func TestP15Close(t *testing.T) {
	h := hostWith(4, table(holds(hold(1, 4, impl.LkX), hold(1, 6, impl.LkX), hold(2, 2, impl.LkX)), hold(3, 6, impl.LkS), hold(4, 4, impl.LkS), hold(1, 2, impl.LkS)))
	h = askHost(t, working(h, 1, 6), done(closing(1), 0, event(3, impl.OK, 6), event(4, impl.OK, 4)), denied(closing(1), impl.ErrLapsed), denied(closing(5), impl.ErrLapsed), denied(closing(999), impl.ErrLapsed))
	if _, code := impl.SessionOf(h, 1); code != impl.ErrNone {
		t.Error("it is there still")
	}
	askSame(t, h.Table, table(holds(hold(2, 2, impl.LkX), hold(3, 6, impl.LkS), hold(4, 4, impl.LkS))))
	if !impl.SameDoc(h.Doc, demoDoc()) {
		t.Error("its copy was checked in")
	}
	h = askHost(t, h, done(closing(4), 0), done(closing(2), 0), done(closing(3), 0))
	askSame(t, h.Table, impl.Table{})
	if len(h.Sessions) > 0 || h.Next != 5 {
		t.Error(h)
	}
}

func TestP15Renew(t *testing.T) {
	h := askHost(t, hostWith(2, impl.Table{}), done(renewing(1), 50), done(ticking(49), 0), done(renewing(2), 99), done(ticking(1), 1, event(1, impl.ErrLapsed, 0)), denied(renewing(1), impl.ErrLapsed), denied(renewing(3), impl.ErrLapsed), done(ticking(48), 0), done(renewing(2), 148), done(ticking(49), 0))
	askHost(t, h, done(ticking(1), 1, event(2, impl.ErrLapsed, 0)))
	// A lease is renewed to its length of now, which is less than what is left only where Clock stood still.
	h = turnedHost(hostWith(1, impl.Table{}), func(h *impl.Host) { h.Lease, h.Sessions[0].Until = 1, 1 })
	askHost(t, h, done(renewing(1), 1), done(ticking(1), 1, event(1, impl.ErrLapsed, 0)))
}

// TestP15Ticks: one that reaches Until, and one that does not; Clock goes up to MaxNumber.
func TestP15Ticks(t *testing.T) {
	askHost(t, hostWith(1, impl.Table{}), done(ticking(49), 0), done(ticking(1), 1, event(1, impl.ErrLapsed, 0)), done(ticking(1), 0))
	askHost(t, hostWith(1, impl.Table{}), done(ticking(50), 1, event(1, impl.ErrLapsed, 0)))
	askHost(t, hostWith(1, impl.Table{}), done(ticking(500), 1, event(1, impl.ErrLapsed, 0)))
	h := turnedHost(hostWith(1, impl.Table{}), func(h *impl.Host) { h.Clock, h.Sessions[0].Until = 999500, 999550 })
	h = askHost(t, h, done(ticking(49), 0), denied(ticking(451), impl.ErrFull), done(ticking(450), 1, event(1, impl.ErrLapsed, 0)), denied(ticking(1), impl.ErrFull), denied(ticking(500), impl.ErrFull))
	if h.Clock != 999999 {
		t.Error("Clock:", h.Clock)
	}
}

// TestP15SeveralLapse by one tick, by their numbers: one with a copy, one that waits; who is granted a lock meanwhile may go
// by the same tick.
func TestP15SeveralLapse(t *testing.T) {
	h := hostWith(6, table(holds(hold(1, 9, impl.LkX), hold(2, 5, impl.LkIX), hold(3, 4, impl.LkX), hold(5, 2, impl.LkS)), hold(4, 9, impl.LkS), hold(2, 4, impl.LkS), hold(6, 8, impl.LkS)))
	h = working(working(h, 1, 9), 3, 4)
	for id, until := range map[int]int{1: 20, 2: 21, 3: 20, 4: 20, 5: 50, 6: 30} {
		h.Sessions[id-1].Until = until
	}
	then := askHost(t, h, done(ticking(19), 0))
	then = askHost(t, then, done(ticking(1), 3, event(1, impl.ErrLapsed, 9), event(4, impl.OK, 9), event(6, impl.OK, 8), event(3, impl.ErrLapsed, 4), event(2, impl.OK, 4), event(4, impl.ErrLapsed, 0)))
	askSame(t, then.Table, table(holds(hold(2, 4, impl.LkS), hold(2, 5, impl.LkIX), hold(5, 2, impl.LkS), hold(6, 8, impl.LkS))))
	then = askHost(t, then, done(ticking(29), 2, event(2, impl.ErrLapsed, 0), event(6, impl.ErrLapsed, 0)))
	askSame(t, then.Table, table(holds(hold(5, 2, impl.LkS))))
	then = askHost(t, h, done(ticking(500), 6, event(1, impl.ErrLapsed, 9), event(4, impl.OK, 9), event(6, impl.OK, 8), event(2, impl.ErrLapsed, 0), event(3, impl.ErrLapsed, 4), event(4, impl.ErrLapsed, 0), event(5, impl.ErrLapsed, 0), event(6, impl.ErrLapsed, 0)))
	askNobody(t, then)
	// One waits for another one, and both go; the wait is not granted, since it goes first.
	h = hostWith(2, table(holds(hold(2, 5, impl.LkX)), hold(1, 9, impl.LkX)))
	askNobody(t, askHost(t, h, done(ticking(50), 2, event(1, impl.ErrLapsed, 0), event(2, impl.ErrLapsed, 0))))
}

// askNobody asks of a host without sessions that nothing is held, and nobody waits.
func askNobody(t *testing.T, h impl.Host) {
	t.Helper()
	if len(h.Sessions)+len(h.Table.Holds)+len(h.Table.Waits) > 0 {
		t.Errorf("somebody is there still: %v", h)
	}
}

// TestP15Events: MaxEvent events and more; the first ones go.
func TestP15Events(t *testing.T) {
	h := hostWith(3, table(holds(hold(1, 5, impl.LkX)), hold(3, 6, impl.LkS), hold(2, 7, impl.LkS)))
	for i := range 39 {
		h.Events = append(h.Events, event(1+i%3, i%22, i))
	}
	then := askHost(t, h, done(unlocking(1, 5), 0, event(3, impl.OK, 6), event(2, impl.OK, 7)))
	if len(then.Events) != 40 || then.Events[0] != h.Events[1] || then.Events[38] != event(3, impl.OK, 6) {
		t.Error(then.Events)
	}
	then = askHost(t, then, done(ticking(50), 3, event(1, impl.ErrLapsed, 0), event(2, impl.ErrLapsed, 0), event(3, impl.ErrLapsed, 0)))
	if len(then.Events) != 40 || then.Events[0] != h.Events[4] {
		t.Error(then.Events)
	}
	// One event more than there is room for, and none.
	h.Events = append(h.Events, event(1, 0, 1))
	askHost(t, h, done(ticking(49), 0), denied(locking(1, 77, impl.LkS), impl.ErrNone), done(closing(2), 0), done(closing(1), 0, event(3, impl.OK, 6)))
	askHost(t, fullHost(), denied(ticking(1), impl.ErrFull), done(closing(994), 0, event(999, impl.OK, 6), event(998, impl.OK, 7), event(997, impl.OK, 8), event(996, impl.OK, 9), event(995, impl.OK, 6)))
}

// TestP15WhoHasLapsed has nothing any more, however a thrown host is; when all have, nothing is held.
func TestP15WhoHasLapsed(t *testing.T) {
	throw := &dice{197}
	var some tally
	for range 1000 {
		h := thrownHost(throw, 1)
		a := 1 + throw.below(h.Lease)
		then := askRequest(t, h, ticking(a))
		for _, s := range h.Sessions {
			lapsed := s.Until <= h.Clock+a
			has := slices.ContainsFunc(slices.Concat(then.Table.Holds, then.Table.Waits), func(k impl.Hold) bool { return k.Session == s.Id })
			if there := sessionIn(&then, s.Id) != nil; there == lapsed || has && lapsed {
				t.Fatalf("AskHost(%v, tick %d) = %v: session %d", h, a, then, s.Id)
			}
			told := slices.ContainsFunc(then.Events, func(e impl.Event) bool { return e == event(s.Id, impl.ErrLapsed, s.At) })
			if lapsed && !told {
				t.Fatalf("AskHost(%v, tick %d) does not tell that %d has lapsed", h, a, s.Id)
			}
			some.count(lapsed)
		}
		askNobody(t, askRequest(t, h, ticking(h.Lease)))
	}
	if some.yes < 500 || some.no < 500 {
		t.Error("too few of one sort:", some)
	}
}
