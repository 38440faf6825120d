package tests

import (
	"math"
	"slices"
	"testing"

	"loop.example/g00701/impl"
)

// TestP13LocksAreGranted at once without an event, and told by one to who waited: behind another one's unlock, close, lapse
// and check-in.
func TestP13LocksAreGranted(t *testing.T) {
	h := askHost(t, hostWith(4, impl.Table{}), done(locking(1, 5, impl.LkX), 0), done(locking(1, 5, impl.LkS), 0), done(locking(4, 4, impl.LkS), 0), denied(locking(3, 9, impl.LkS), impl.ErrWait), denied(locking(2, 6, impl.LkX), impl.ErrWait))
	askSame(t, h.Table, table(holds(hold(1, 5, impl.LkX), hold(4, 4, impl.LkS)), hold(3, 9, impl.LkS), hold(2, 6, impl.LkX)))
	told := []impl.Event{event(3, impl.OK, 9), event(2, impl.OK, 6)}
	for _, q := range []impl.Request{unlocking(1, 5), closing(1)} {
		then := askHost(t, h, done(q, 0, told...))
		askSame(t, then.Table, table(holds(hold(2, 6, impl.LkX), hold(3, 9, impl.LkS), hold(4, 4, impl.LkS))))
	}
	h.Sessions[0].Until = 1
	askHost(t, h, done(ticking(1), 1, append([]impl.Event{event(1, impl.ErrLapsed, 0)}, told...)...))
	// By a check-in there is room for two of three: the locks below the node that was checked out go.
	h = working(crowdedHost(), 1, 5)
	then := askHost(t, h, denied(locking(1, 8, impl.LkS), impl.ErrFull), done(checkingIn(1), 12, event(6, impl.OK, 4), event(3, impl.OK, 12)))
	if len(then.Table.Holds) != 30 || then.Table.Holds[0] != hold(1, 5, impl.LkX) || then.Table.Holds[1] != hold(2, 1, impl.LkIS) || !alike(then.Table.Waits, holds(hold(5, 2, impl.LkX), hold(2, 12, impl.LkIS))) {
		t.Error(then.Table)
	}
}

// crowdedHost has three kids of Root more, and no room for locks; three of its waits stand behind nobody.
func crowdedHost() impl.Host {
	x := table(holds(hold(1, 5, impl.LkX), hold(1, 6, impl.LkIS), hold(1, 9, impl.LkIS)), hold(5, 2, impl.LkX), hold(6, 4, impl.LkS), hold(3, 12, impl.LkIS), hold(2, 12, impl.LkIS))
	for session := 2; session <= 5; session++ {
		for _, node := range []int{1, 2, 3, 4, 10, 11} {
			x.Holds = append(x.Holds, hold(session, node, impl.LkIS))
		}
	}
	x.Holds = append(x.Holds, hold(6, 1, impl.LkIS), hold(6, 2, impl.LkIS), hold(6, 3, impl.LkIS))
	h := hostWith(6, x)
	h.Doc.Next, h.Doc.Nodes[0].Kids = 13, []int{2, 3, 5, 10, 11, 12}
	for id := 10; id <= 12; id++ {
		h.Doc.Nodes = append(h.Doc.Nodes, impl.Node{Id: id, Kind: 3})
	}
	return h
}

// TestP13LocksAreRefused with each code of AskLock, in its order.
func TestP13LocksAreRefused(t *testing.T) {
	h := hostWith(3, table(holds(hold(1, 5, impl.LkX)), hold(2, 6, impl.LkS)))
	askHost(t, h,
		denied(locking(4, 77, impl.LkX), impl.ErrLapsed), denied(locking(999, 5, impl.LkX), impl.ErrLapsed), denied(locking(2, 77, impl.LkX), impl.ErrNone), denied(locking(2, 10, impl.LkX), impl.ErrNone), denied(locking(2, 999999, impl.LkX), impl.ErrNone),
		denied(locking(2, 2, impl.LkX), impl.ErrHeld), denied(locking(2, 6, impl.LkS), impl.ErrHeld), denied(locking(3, 6, impl.LkS), impl.ErrWait), denied(locking(3, 6, impl.LkS), impl.ErrHeld),
	)
	askHost(t, fullHost(), denied(locking(993, 77, impl.LkX), impl.ErrLapsed), denied(locking(994, 77, impl.LkX), impl.ErrNone), denied(locking(994, 6, impl.LkX), impl.ErrHeld), denied(locking(994, 1, impl.LkIS), impl.ErrHeld))
	full := turnedHost(fullHost(), func(h *impl.Host) { h.Table.Waits = h.Table.Waits[:5] })
	askHost(t, full, denied(locking(994, 6, impl.LkX), impl.ErrFull), denied(locking(994, 6, impl.LkIS), impl.ErrFull), done(locking(994, 5, impl.LkIS), 0), denied(locking(994, 9, impl.LkS), impl.ErrFull), done(locking(994, 5, impl.LkIX), 0))
}

// TestP13Unlock: of no such node, of no lock there, of a lock whose node is checked out, of one above it, of one that leaves
// it covered by another one.
func TestP13Unlock(t *testing.T) {
	h := hostWith(3, table(holds(hold(1, 1, impl.LkIX), hold(1, 4, impl.LkX), hold(1, 5, impl.LkX), hold(1, 7, impl.LkS), hold(1, 9, impl.LkX)), hold(2, 4, impl.LkS)))
	for _, node := range []int{5, 6, 7, 8} {
		askHost(t, working(h, 1, node),
			denied(unlocking(1, 77), impl.ErrNone), denied(unlocking(1, 10), impl.ErrNone), denied(unlocking(3, 77), impl.ErrNone), denied(unlocking(4, 77), impl.ErrLapsed),
			denied(unlocking(1, 6), impl.ErrHeld), denied(unlocking(1, 8), impl.ErrHeld), denied(unlocking(2, 4), impl.ErrHeld), denied(unlocking(2, 5), impl.ErrHeld),
			denied(unlocking(1, 5), impl.ErrWork), done(unlocking(1, 1), 0), done(unlocking(1, 9), 0), done(unlocking(1, 7), 0), done(unlocking(1, 4), 0, event(2, impl.OK, 4)), denied(unlocking(1, 5), impl.ErrWork),
			done(abandoning(1), 0), done(unlocking(1, 5), 0), denied(unlocking(1, 5), impl.ErrHeld),
		)
	}
	// Node 9 is covered twice: either lock may go, and then not the other one.
	askHost(t, working(h, 1, 9), done(unlocking(1, 5), 0), denied(unlocking(1, 9), impl.ErrWork), done(unlocking(1, 7), 0), done(abandoning(1), 0), done(unlocking(1, 9), 0))
	askHost(t, working(h, 1, 9), done(unlocking(1, 9), 0), denied(unlocking(1, 5), impl.ErrWork), done(unlocking(1, 7), 0))
	askHost(t, h, done(unlocking(1, 5), 0), done(unlocking(1, 9), 0))
	askHost(t, rootHost(), denied(unlocking(1, 1), impl.ErrWork), done(abandoning(1), 0), done(unlocking(1, 1), 0))
	// A session that waits frees another lock, and is granted its own: it is told.
	h = hostWith(2, table(holds(hold(1, 2, impl.LkS), hold(1, 4, impl.LkX)), hold(1, 9, impl.LkX), hold(2, 9, impl.LkX)))
	askHost(t, h, done(unlocking(1, 2), 0, event(1, impl.OK, 9)))
	// By what it is granted then it covers the node still.
	h = working(hostWith(2, table(holds(hold(1, 5, impl.LkX)), hold(1, 1, impl.LkX))), 1, 7)
	askHost(t, h, done(unlocking(1, 5), 0, event(1, impl.OK, 1)), denied(unlocking(1, 1), impl.ErrWork))
}

// TestP13CheckOut: by a lock on the node and by one above; refused with each code, in its order.
func TestP13CheckOut(t *testing.T) {
	d := demoDoc()
	h := hostWith(3, table(holds(hold(1, 5, impl.LkX), hold(2, 4, impl.LkX), hold(3, 2, impl.LkSIX)), hold(3, 4, impl.LkX)))
	for _, node := range []int{5, 6, 7, 8, 9} {
		then := askHost(t, h, shown(checkingOut(1, node), subByTheRule(d, node)),
			denied(checkingOut(1, 77), impl.ErrNone), denied(checkingOut(1, node), impl.ErrWork), denied(checkingOut(1, 4), impl.ErrWork), denied(checkingOut(4, node), impl.ErrLapsed),
			denied(checkingOut(2, node), impl.ErrMode), denied(checkingOut(3, node), impl.ErrMode), shown(checkingOut(2, 4), subByTheRule(d, 4)))
		for session, want := range map[int]int{1: node, 2: 4} {
			if s, code := impl.SessionOf(then, session); code != impl.OK || s.At != node && s.At != want || !alike(s.Copy, subByTheRule(d, want)) {
				t.Error(s, code)
			}
		}
		if !impl.SameDoc(then.Doc, d) || !impl.SameTable(then.Table, h.Table) {
			t.Error("a check-out turns nothing else", then)
		}
	}
	askHost(t, h,
		denied(checkingOut(1, 1), impl.ErrMode), denied(checkingOut(1, 3), impl.ErrMode), denied(checkingOut(2, 3), impl.ErrMode), denied(checkingOut(3, 2), impl.ErrMode), denied(checkingOut(3, 4), impl.ErrMode),
		denied(checkingOut(1, 10), impl.ErrNone), denied(checkingOut(1, 999999), impl.ErrNone), denied(checkingOut(999, 999999), impl.ErrLapsed))
	for mode := impl.LkIS; mode <= impl.LkX; mode++ {
		for _, node := range []int{1, 3, 4} {
			h := hostWith(1, table(holds(hold(1, node, mode))))
			v := denied(checkingOut(1, 4), impl.ErrMode)
			if mode == impl.LkX {
				v = shown(checkingOut(1, 4), subByTheRule(d, 4))
			}
			askHost(t, h, v)
		}
	}
}

// TestP13RootCheckedOut: the whole document is one session's then, and nobody else gets anything.
func TestP13RootCheckedOut(t *testing.T) {
	h := askHost(t, hostWith(3, impl.Table{}), done(locking(1, 1, impl.LkX), 0), shown(checkingOut(1, 1), demoDoc()), denied(locking(2, 9, impl.LkIS), impl.ErrWait), denied(locking(3, 1, impl.LkX), impl.ErrWait), denied(checkingOut(2, 9), impl.ErrMode), denied(reading(2, 9), impl.ErrMode))
	h = askHost(t, h, done(editing(1, impl.Edit{Kind: impl.EdDelete, Node: 5}), 4), done(editing(1, impl.Edit{Kind: impl.EdAttr, Node: 1, A: 9}), 4), denied(editing(1, impl.Edit{Kind: impl.EdLift, Node: 1}), impl.ErrRoot), done(checkingIn(1), 4, event(2, impl.ErrNone, 9)))
	want := impl.Doc{Root: 1, Next: 10, Nodes: []impl.Node{{Id: 1, Kind: 1, Attr: 9, Kids: []int{2, 3}}, {Id: 2, Kind: 3, Text: "intro"}, {Id: 3, Kind: 2, Kids: []int{4}}, {Id: 4, Kind: 3, Text: "one"}}}
	if !alike(h.Doc, want) || !alike(h.Table, table(holds(hold(1, 1, impl.LkX)), hold(3, 1, impl.LkX))) {
		t.Error(h)
	}
	askHost(t, h, done(closing(1), 0, event(3, impl.OK, 1)))
}

// TestP13Victims: what a victim has checked out goes with its locks; its session stays. It is the one who asks, another one,
// and two of one ask.
func TestP13Victims(t *testing.T) {
	two := working(working(hostWith(3, table(holds(hold(1, 4, impl.LkX), hold(2, 5, impl.LkX)))), 1, 4), 2, 7)
	idle := impl.Session{Id: 2, Until: 50}
	askVictim := func(h impl.Host, locks ...impl.Hold) {
		t.Helper()
		if s, code := impl.SessionOf(h, 2); code != impl.OK || !alike(s, idle) {
			t.Error("the victim:", s, code)
		}
		if s, code := impl.SessionOf(h, 1); code != impl.OK || s.At != 4 || !alike(s.Copy, subByTheRule(demoDoc(), 4)) {
			t.Error("who is no victim:", s, code)
		}
		askSame(t, h.Table, table(locks))
	}
	h := askHost(t, two, denied(locking(1, 6, impl.LkS), impl.ErrWait), denied(locking(2, 3, impl.LkS), impl.ErrVictim, event(2, impl.ErrVictim, 0), event(1, impl.OK, 6)))
	askVictim(h, hold(1, 4, impl.LkX), hold(1, 6, impl.LkS))
	askHost(t, h, denied(checkingIn(2), impl.ErrWork), denied(abandoning(2), impl.ErrWork), denied(editing(2, impl.Edit{Kind: impl.EdDelete, Node: 9}), impl.ErrWork), denied(checkingOut(2, 7), impl.ErrMode), done(locking(2, 2, impl.LkX), 0), shown(checkingOut(2, 2), subByTheRule(demoDoc(), 2)))
	// The one who asks is granted its lock, and told so by its reply.
	h = askHost(t, two, denied(locking(2, 4, impl.LkS), impl.ErrWait), done(locking(1, 6, impl.LkS), 0, event(2, impl.ErrVictim, 0)))
	askVictim(h, hold(1, 4, impl.LkX), hold(1, 6, impl.LkS))
	// Others who waited for the victim are told, by their waits' order; the one who asks is not.
	h = askHost(t, two, denied(locking(3, 9, impl.LkS), impl.ErrWait), denied(locking(2, 4, impl.LkS), impl.ErrWait), done(locking(1, 6, impl.LkX), 0, event(2, impl.ErrVictim, 0), event(3, impl.OK, 9)))
	askVictim(h, hold(1, 4, impl.LkX), hold(1, 6, impl.LkX), hold(3, 9, impl.LkS))
	// The circle is broken, and who asked waits still, for one who is none of it.
	h = hostWith(3, table(holds(hold(1, 4, impl.LkX), hold(2, 7, impl.LkX), hold(3, 6, impl.LkS))))
	h = askHost(t, working(h, 2, 8), denied(locking(2, 4, impl.LkS), impl.ErrWait), denied(locking(1, 5, impl.LkX), impl.ErrWait, event(2, impl.ErrVictim, 0)))
	if s, _ := impl.SessionOf(h, 2); !alike(s, idle) {
		t.Error(s)
	}
	// Two victims of one ask, one of them without a copy, and the greatest one first.
	h = hostWith(4, table(holds(hold(1, 4, impl.LkX), hold(2, 9, impl.LkX), hold(3, 6, impl.LkX), hold(4, 2, impl.LkX))))
	h = working(working(working(h, 2, 9), 4, 2), 1, 4)
	h = askHost(t, h, denied(locking(2, 4, impl.LkS), impl.ErrWait), denied(locking(3, 4, impl.LkS), impl.ErrWait), done(locking(1, 5, impl.LkX), 0, event(3, impl.ErrVictim, 0), event(2, impl.ErrVictim, 0)))
	if s, _ := impl.SessionOf(h, 2); !alike(s, idle) {
		t.Error(s)
	}
	if s, _ := impl.SessionOf(h, 4); s.At != 2 {
		t.Error("who was in no circle:", s)
	}
	askSame(t, h.Table, table(holds(hold(1, 4, impl.LkX), hold(1, 5, impl.LkX), hold(4, 2, impl.LkX))))
	// All three, the one who asks with them.
	h = hostWith(3, table(holds(hold(3, 4, impl.LkX), hold(2, 9, impl.LkX), hold(1, 6, impl.LkX))))
	sortHolds(h.Table.Holds)
	h = working(working(working(h, 2, 9), 3, 4), 1, 6)
	h = askHost(t, h, denied(locking(2, 4, impl.LkS), impl.ErrWait), denied(locking(1, 4, impl.LkS), impl.ErrWait), denied(locking(3, 5, impl.LkX), impl.ErrVictim, event(3, impl.ErrVictim, 0), event(2, impl.OK, 4), event(1, impl.OK, 4)))
	if s, _ := impl.SessionOf(h, 3); s.At != 0 || !alike(s.Copy, impl.Doc{}) {
		t.Error(s)
	}
}

// coverBelow are the nodes that a session covers with X, and all below them.
func coverBelow(h impl.Host, session int) []int {
	var nodes []int
	for _, n := range h.Doc.Nodes {
		if cover, _ := coverByTheRule(h.Doc, h.Table.Holds, session, n.Id); cover == impl.LkX {
			nodes = append(nodes, n.Id)
		}
	}
	return nodes
}

// turnedNodes are those that only one of both has, or that are not alike.
func turnedNodes(a, b impl.Doc) []int {
	var nodes []int
	for id := 1; id < max(a.Next, b.Next); id++ {
		one, _ := nodeByTheRule(a, id)
		other, _ := nodeByTheRule(b, id)
		if !alike(one, other) {
			nodes = append(nodes, id)
		}
	}
	return nodes
}

// askSections asks what P13 promises of one request: what turned was covered with X by who asked, and by nobody else, and
// what sessions have checked out does not overlap.
func askSections(t *testing.T, h, then impl.Host, q impl.Request) {
	t.Helper()
	nodes := turnedNodes(h.Doc, then.Doc)
	if len(nodes) > 0 && q.Kind != impl.RqCheckIn {
		t.Fatalf("AskHost(%s, %v) turns %v", short(h), q, nodes)
	}
	own := coverBelow(h, q.Session)
	for _, node := range nodes {
		if _, there := nodeByTheRule(h.Doc, node); there && !slices.Contains(own, node) {
			t.Fatalf("AskHost(%s, %v) turns node %d, which it does not cover", short(h), q, node)
		}
	}
	for _, s := range then.Sessions {
		for _, other := range then.Sessions {
			if s.Id != other.Id && s.At != 0 && other.At != 0 && slices.Contains(orderByTheRule(then.Doc, s.At), other.At) {
				t.Fatalf("%d and %d have checked out what overlaps: %s", s.Id, other.Id, short(then))
			}
		}
		if s.Id != q.Session && len(nodes) > 0 {
			for _, node := range coverBelow(h, s.Id) {
				if slices.Contains(nodes, node) {
					t.Fatalf("AskHost(%s, %v) turns node %d, which %d covers", short(h), q, node, s.Id)
				}
			}
		}
	}
}

// TestP13WhatIsNotThere: numbers that no session and no node has.
func TestP13WhatIsNotThere(t *testing.T) {
	for _, n := range []int{2, 3, 5, 7, 8, 11, 12, 13, 999} {
		for _, q := range rightRequests() {
			if q.Session != 0 {
				q.Session = n
				askHost(t, busyHost(), denied(q, impl.ErrLapsed))
			}
		}
	}
	for _, n := range []int{10, 11, 77, 999999} {
		for _, session := range []int{1, 4, 6, 9, 10} {
			askHost(t, busyHost(), denied(locking(session, n, impl.LkX), impl.ErrNone), denied(unlocking(session, n), impl.ErrNone), denied(checkingOut(session, n), impl.ErrNone), denied(reading(session, n), impl.ErrNone))
		}
	}
	for _, n := range []int{math.MinInt, -1, 0, 1000, math.MaxInt} {
		if _, _, code := impl.AskHost(busyHost(), closing(n)); code != impl.ErrBad {
			t.Error("AskHost", n, code)
		}
	}
}
