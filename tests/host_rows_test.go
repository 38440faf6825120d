package tests

import (
	"slices"
	"testing"

	"loop.example/g00701/impl"
)

// thrownRequest is a right request that suits the host in most cases.
func thrownRequest(throw *dice, h impl.Host) impl.Request {
	if len(h.Sessions) == 0 || throw.below(12) == 0 {
		if throw.below(4) > 0 {
			return opening()
		}
		return ticking(1 + throw.below(h.Lease/10+1))
	}
	s := h.Sessions[throw.below(len(h.Sessions))]
	if throw.below(60) == 0 {
		s.Id = 1 + throw.below(h.Next)
	}
	node := h.Doc.Nodes[throw.below(len(h.Doc.Nodes))].Id
	if throw.below(60) == 0 {
		node = 1 + throw.below(h.Doc.Next+3)
	}
	if throw.below(3) > 0 && waitByTheRule(h.Table, s.Id) < 0 {
		return locking(s.Id, node, []int{impl.LkIS, impl.LkIX, impl.LkS, impl.LkSIX, impl.LkX, impl.LkX, impl.LkX}[throw.below(7)])
	}
	if covered := coverBelow(h, s.Id); s.At == 0 && len(covered) > 0 {
		return checkingOut(s.Id, thrownOf(throw, covered, node))
	}
	if s.At > 0 && throw.below(4) > 0 {
		return []impl.Request{editing(s.Id, thrownEdit(throw, s.Copy)), checkingIn(s.Id)}[throw.below(5)/3]
	}
	return thrownOther(throw, h, s, node)
}

func thrownOther(throw *dice, h impl.Host, s impl.Session, node int) impl.Request {
	switch throw.below(10) {
	case 0:
		return checkingIn(s.Id)
	case 1:
		return abandoning(s.Id)
	case 2:
		return closing(s.Id)
	case 3, 4:
		return unlocking(s.Id, thrownOf(throw, nodesOf(h, s.Id), node))
	case 5:
		return reading(s.Id, thrownOf(throw, nodesOf(h, s.Id), node))
	case 6:
		return editing(s.Id, thrownEdit(throw, thrownCopy(h, s)))
	case 7:
		return checkingOut(s.Id, node)
	case 8:
		return locking(s.Id, node, impl.LkX)
	}
	return renewing(s.Id)
}

func thrownCopy(h impl.Host, s impl.Session) impl.Doc {
	if s.At == 0 {
		return h.Doc
	}
	return s.Copy
}

// thrownOf is one of a list in most cases, if there are any.
func thrownOf(throw *dice, list []int, other int) int {
	if len(list) == 0 || throw.below(4) == 0 {
		return other
	}
	return list[throw.below(len(list))]
}

// nodesOf are those of a session's locks.
func nodesOf(h impl.Host, session int) []int {
	var nodes []int
	for _, k := range h.Table.Holds {
		if k.Session == session {
			nodes = append(nodes, k.Node)
		}
	}
	return nodes
}

// askRow makes so many thrown requests, and asks of each what P12, P13, P15 and P16 promise; it counts what came of them.
func askRow(t *testing.T, throw *dice, h impl.Host, requests int, counts map[[2]int]int) {
	t.Helper()
	h.Table, _, _ = settleByTheRule(h.Doc, h.Table)
	for range requests {
		q := thrownRequest(throw, h)
		then := askRequest(t, h, q)
		_, reply, code := impl.AskHost(h, q)
		if code != impl.OK {
			t.Fatalf("AskHost(%s, %v): code %d", short(h), q, code)
		}
		counts[[2]int{q.Kind, reply.Code}]++
		askTold(t, h, then, q, reply)
		askSections(t, h, then, q)
		askNoCircles(t, then.Doc, then.Table)
		h = then
	}
	askNobody(t, askRequest(t, turnedHost(h, func(h *impl.Host) { h.Clock = 0; evenUntil(h) }), ticking(h.Lease)))
}

func evenUntil(h *impl.Host) {
	for i := range h.Sessions {
		h.Sessions[i].Until = 1 + i%h.Lease
	}
}

// askTold asks of one request that each wait that ended was told, unless its session closed, or its reply told it; and that
// a victim has nothing.
func askTold(t *testing.T, h, then impl.Host, q impl.Request, reply impl.Reply) {
	t.Helper()
	added := newEvents(h, then)
	for _, w := range h.Table.Waits {
		ended := waitByTheRule(then.Table, w.Session) < 0
		told := slices.ContainsFunc(added, func(e impl.Event) bool { return e.Session == w.Session })
		closed := q.Kind == impl.RqClose && q.Session == w.Session
		if told != ended && !closed {
			t.Fatalf("AskHost(%s, %v): the wait %v ended: %v; events %v", short(h), q, w, ended, added)
		}
	}
	for _, e := range added {
		if s := sessionIn(&then, e.Session); e.Code == impl.ErrVictim && (s == nil || s.At != 0 || hasAnything(then, e.Session)) {
			t.Fatalf("AskHost(%s, %v): the victim %d has something: %s", short(h), q, e.Session, short(then))
		}
	}
	if reply.Code == impl.ErrVictim && hasAnything(then, q.Session) {
		t.Fatalf("AskHost(%s, %v): a victim that has something: %s", short(h), q, short(then))
	}
}

func hasAnything(h impl.Host, session int) bool {
	return slices.ContainsFunc(slices.Concat(h.Table.Holds, h.Table.Waits), func(k impl.Hold) bool { return k.Session == session })
}

// newEvents are those behind the longest part of the old ones.
func newEvents(h, then impl.Host) []impl.Event {
	for from := range len(h.Events) + 1 {
		old := h.Events[from:]
		if len(old) <= len(then.Events) && slices.Equal(old, then.Events[:len(old)]) {
			return then.Events[len(old):]
		}
	}
	return nil
}

// TestP12LongRows of requests by several sessions, from the demo host and from thrown ones on.
func TestP12LongRows(t *testing.T) {
	throw := &dice{223}
	counts := map[[2]int]int{}
	for i := range 60 {
		h := demoHost()
		if i%3 > 0 {
			h = thrownHost(throw, 3)
		}
		askRow(t, throw, h, 120, counts)
	}
	for kind, codes := range map[int][]int{
		impl.RqOpen: {impl.OK, impl.ErrFull}, impl.RqClose: {impl.OK}, impl.RqRenew: {impl.OK}, impl.RqTick: {impl.OK},
		impl.RqLock: {impl.OK, impl.ErrLapsed, impl.ErrNone, impl.ErrHeld, impl.ErrWait, impl.ErrVictim}, impl.RqUnlock: {impl.OK, impl.ErrHeld, impl.ErrWork},
		impl.RqCheckOut: {impl.OK, impl.ErrWork, impl.ErrMode}, impl.RqEdit: {impl.OK, impl.ErrRoot, impl.ErrRange}, impl.RqCheckIn: {impl.OK, impl.ErrContent, impl.ErrWork}, impl.RqAbandon: {impl.OK, impl.ErrWork}, impl.RqRead: {impl.OK, impl.ErrMode},
	} {
		for _, code := range codes {
			if counts[[2]int{kind, code}] < 3 {
				t.Errorf("too few of kind %d with code %d: %v", kind, code, counts)
			}
		}
	}
}

// TestP12RowsInPlainDocuments: every document of one kind is taken, so that edits turn it as they like.
func TestP12RowsInPlainDocuments(t *testing.T) {
	throw := &dice{227}
	counts := map[[2]int]int{}
	for range 40 {
		h := anyHost(plainDoc(2+throw.below(12)), 1)
		h.Lease = 500
		askRow(t, throw, h, 120, counts)
	}
	if counts[[2]int{impl.RqCheckIn, impl.OK}] < 40 || counts[[2]int{impl.RqLock, impl.ErrVictim}] < 10 {
		t.Error("too few of one sort:", counts)
	}
}

// TestP12TurnedHosts: thrown hosts with a number turned, which are right or not; HostOK says so, and AskHost.
func TestP12TurnedHosts(t *testing.T) {
	throw := &dice{229}
	var right tally
	for range 4000 {
		h := cloneHost(thrownHost(throw, 1))
		for range 1 + throw.below(2) {
			turnANumber(throw, &h)
		}
		want := hostByTheRule(h)
		if impl.HostOK(h) != want || impl.SameHost(h, h) != want {
			t.Fatalf("HostOK(%s) is %v", short(h), !want)
		}
		if want {
			askRequest(t, h, thrownRequest(throw, h))
		}
		right.count(want)
	}
	right.askBoth(t)
}

func turnANumber(throw *dice, h *impl.Host) {
	numbers := []*int{&h.Clock, &h.Lease, &h.Next, &h.Doc.Next, &h.Doc.Nodes[throw.below(len(h.Doc.Nodes))].Kind}
	for i := range h.Sessions {
		s := &h.Sessions[i]
		numbers = append(numbers, &s.Id, &s.Until, &s.At, &s.Copy.Root, &s.Copy.Next)
	}
	for _, list := range [][]impl.Hold{h.Table.Holds, h.Table.Waits} {
		for i := range list {
			numbers = append(numbers, &list[i].Session, &list[i].Node, &list[i].Mode)
		}
	}
	for i := range h.Events {
		numbers = append(numbers, &h.Events[i].Session, &h.Events[i].Code, &h.Events[i].Node)
	}
	*numbers[throw.below(len(numbers))] += []int{-1, 1, 1, 2, 7}[throw.below(5)]
}
