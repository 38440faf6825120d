package tests

import (
	"fmt"
	"reflect"
	"slices"
	"testing"

	"loop.example/g00701/impl"
)

// request is of any kind but RqEdit.
func request(kind, session, node, a int) impl.Request {
	return impl.Request{Kind: kind, Session: session, Node: node, A: a}
}

func editing(session int, e impl.Edit) impl.Request {
	return impl.Request{Kind: impl.RqEdit, Session: session, Edit: e}
}

// demoHost is a host of the demo document without sessions.
func demoHost() impl.Host {
	return impl.Host{Schema: demoRules(), Doc: demoDoc(), Lease: 50, Next: 1}
}

// hostWith has so many sessions from 1 on, and locks and waits.
func hostWith(sessions int, x impl.Table) impl.Host {
	h := demoHost()
	h.Table = x
	for id := 1; id <= sessions; id++ {
		h.Sessions = append(h.Sessions, impl.Session{Id: id, Until: 50})
	}
	h.Next = sessions + 1
	return h
}

// working is a host in which a session has a copy of a node.
func working(h impl.Host, session, node int) impl.Host {
	h = cloneHost(h)
	s := sessionIn(&h, session)
	s.At = node
	s.Copy = subByTheRule(h.Doc, node)
	return h
}

func sessionIn(h *impl.Host, id int) *impl.Session {
	for i := range h.Sessions {
		if h.Sessions[i].Id == id {
			return &h.Sessions[i]
		}
	}
	return nil
}

func cloneHost(h impl.Host) impl.Host {
	h.Schema = cloneRules(h.Schema)
	h.Doc = clone(h.Doc)
	h.Sessions = slices.Clone(h.Sessions)
	for i := range h.Sessions {
		h.Sessions[i].Copy = clone(h.Sessions[i].Copy)
	}
	h.Table = table(slices.Clone(h.Table.Holds), slices.Clone(h.Table.Waits)...)
	h.Events = slices.Clone(h.Events)
	return h
}

func turnedHost(h impl.Host, turn func(*impl.Host)) impl.Host {
	h = cloneHost(h)
	turn(&h)
	return h
}

// does is a request, and what is to come of it: the reply, and the events that are put behind the others.
type does struct {
	q      impl.Request
	reply  impl.Reply
	events []impl.Event
}

func done(q impl.Request, n int, events ...impl.Event) does {
	return does{q, impl.Reply{N: n}, events}
}

func shown(q impl.Request, d impl.Doc) does {
	return does{q, impl.Reply{Doc: d}, nil}
}

// denied is of a request with a code, of which the host tells just those events.
func denied(q impl.Request, code int, events ...impl.Event) does {
	return does{q, impl.Reply{Code: code}, events}
}

func event(session, code, node int) impl.Event {
	return impl.Event{Session: session, Code: code, Node: node}
}

// askHost makes requests one after the other, and holds each answer against what the test names and against the words of
// the chapter; it answers the host then.
func askHost(t *testing.T, h impl.Host, list ...does) impl.Host {
	t.Helper()
	for i, v := range list {
		then := askRequest(t, h, v.q)
		_, reply, _ := impl.AskHost(h, v.q)
		events := slices.Concat(h.Events, v.events)
		if behind := len(events) - 40; behind > 0 {
			events = events[behind:]
		}
		if !alike(reply, v.reply) || !alike(then.Events, events) {
			t.Fatalf("%d: AskHost(%v): reply %v, events %v; want %v and %v behind others", i, v.q, reply, then.Events, v.reply, v.events)
		}
		h = then
	}
	return h
}

// askRequest holds one request to a right host against the words of the chapter, and asks what P12 promises.
func askRequest(t *testing.T, h impl.Host, q impl.Request) impl.Host {
	t.Helper()
	then, reply, code := impl.AskHost(h, q)
	wantHost, wantReply, want := askHostByTheRule(h, q)
	if code != want || !alike(reply, wantReply) || !alike(then, wantHost) {
		t.Fatalf("AskHost(%s, %v) = %s, %v, %d; want %s, %v, %d", short(h), q, short(then), reply, code, short(wantHost), wantReply, want)
	}
	if code == impl.OK && !impl.HostOK(then) {
		t.Fatalf("AskHost(%s, %v): the host is right no more: %s", short(h), q, short(then))
	}
	return then
}

func short(v any) string {
	return fmt.Sprintf("%.3000s", told(reflect.ValueOf(v)))
}

// The same things by the words of chapter 10, slowly.

func requestByTheRule(q impl.Request) bool {
	session := q.Session >= 1 && q.Session <= 999
	node := q.Node >= 1 && q.Node <= 999999
	none := func(list ...int) bool { return !slices.ContainsFunc(list, func(n int) bool { return n != 0 }) }
	noEdit := q.Edit == impl.Edit{}
	switch q.Kind {
	case 1:
		return none(q.Session, q.Node, q.A) && noEdit
	case 2, 3, 8, 9:
		return session && none(q.Node, q.A) && noEdit
	case 4:
		return session && node && q.A >= 1 && q.A <= 5 && noEdit
	case 5, 6, 10:
		return session && node && none(q.A) && noEdit
	case 7:
		return session && none(q.Node, q.A) && editOKByTheRule(q.Edit)
	case 11:
		return none(q.Session, q.Node) && q.A >= 1 && q.A <= 500 && noEdit
	}
	return false
}

func hostByTheRule(h impl.Host) bool {
	switch {
	case h.Clock < 0 || h.Clock > 999999, h.Lease < 1 || h.Lease > 500, h.Next < 1 || h.Next > 1000:
		return false
	case len(h.Sessions) > 6, len(h.Events) > 40, !tableByTheRule(h.Doc, h.Table):
		return false
	}
	if _, code := checkDocByTheRule(h.Schema, h.Doc); code != impl.OK {
		return false
	}
	ids := []int{0}
	for _, s := range h.Sessions {
		if s.Id <= ids[len(ids)-1] || s.Id >= h.Next || s.Until <= h.Clock || s.Until > h.Clock+h.Lease || !workByTheRule(h, s) {
			return false
		}
		ids = append(ids, s.Id)
	}
	for _, e := range h.Events {
		if e.Session < 1 || e.Session >= h.Next || e.Code < 0 || e.Code > 21 || e.Node < 0 || e.Node > 999999 {
			return false
		}
	}
	for _, k := range slices.Concat(h.Table.Holds, h.Table.Waits) {
		if !slices.Contains(ids, k.Session) {
			return false
		}
	}
	peace, _ := peacefulByTheRule(h.Doc, h.Table.Holds)
	return peace && len(circlesByTheRule(h.Doc, h.Table)) == 0
}

func workByTheRule(h impl.Host, s impl.Session) bool {
	if s.At == 0 {
		return alike(s.Copy, impl.Doc{})
	}
	cover, code := coverByTheRule(h.Doc, h.Table.Holds, s.Id, s.At)
	return code == impl.OK && cover == impl.LkX && rightByTheRule(s.Copy) && s.Copy.Root == s.At
}

// circlesByTheRule are the sessions of the first wait that is in a circle, and all others of it.
func circlesByTheRule(d impl.Doc, x impl.Table) []int {
	for _, w := range x.Waits {
		if circle, _ := circleByTheRule(d, x, w.Session); len(circle) > 0 {
			return circle
		}
	}
	return nil
}

func askHostByTheRule(h impl.Host, q impl.Request) (impl.Host, impl.Reply, int) {
	if !hostByTheRule(h) || !requestByTheRule(q) {
		return impl.Host{}, impl.Reply{}, impl.ErrBad
	}
	then := cloneHost(h)
	reply := turnByRequest(&then, q)
	if reply.Code != impl.OK && reply.Code != impl.ErrWait && reply.Code != impl.ErrVictim {
		then = h
	}
	return then, reply, impl.OK
}

func askAllByTheRule(h impl.Host, list []impl.Request) (impl.Host, []impl.Reply, int) {
	switch {
	case len(list) > 4096:
		return impl.Host{}, nil, impl.ErrLong
	case !hostByTheRule(h), slices.ContainsFunc(list, func(q impl.Request) bool { return !requestByTheRule(q) }):
		return impl.Host{}, nil, impl.ErrBad
	}
	var replies []impl.Reply
	for _, q := range list {
		var reply impl.Reply
		h, reply, _ = askHostByTheRule(h, q)
		replies = append(replies, reply)
	}
	return h, replies, impl.OK
}

// subByTheRule is a node and all below it, as a document.
func subByTheRule(d impl.Doc, id int) impl.Doc {
	sub := impl.Doc{Root: id, Next: d.Next}
	for _, n := range d.Nodes {
		if slices.Contains(pathByTheRule(d, n.Id), id) {
			sub.Nodes = append(sub.Nodes, n)
		}
	}
	return clone(sub)
}

func tellByTheRule(h *impl.Host, e impl.Event) {
	h.Events = append(h.Events, e)
	if len(h.Events) > 40 {
		h.Events = h.Events[1:]
	}
}

// grantByTheRule tells those who waited till now.
func grantByTheRule(h *impl.Host, x impl.Table, granted []int) {
	for _, session := range granted {
		if place := waitByTheRule(h.Table, session); place >= 0 {
			tellByTheRule(h, event(session, impl.OK, h.Table.Waits[place].Node))
		}
	}
	h.Table = x
}

func goByTheRule(h *impl.Host, session int) {
	h.Sessions = slices.DeleteFunc(h.Sessions, func(s impl.Session) bool { return s.Id == session })
	x, granted, _ := leaveByTheRule(h.Doc, h.Table, session)
	grantByTheRule(h, x, granted)
}

func victimByTheRule(h *impl.Host, victim int) {
	s := sessionIn(h, victim)
	s.At, s.Copy = 0, impl.Doc{}
	tellByTheRule(h, event(victim, impl.ErrVictim, 0))
}

// turnByRequest may turn a host that is to stay as it was, too.
func turnByRequest(h *impl.Host, q impl.Request) impl.Reply {
	s := sessionIn(h, q.Session)
	if s == nil && q.Kind != impl.RqOpen && q.Kind != impl.RqTick {
		return impl.Reply{Code: impl.ErrLapsed}
	}
	switch q.Kind {
	case impl.RqOpen:
		if len(h.Sessions) == 6 || h.Next > 999 {
			return impl.Reply{Code: impl.ErrFull}
		}
		h.Next++
		h.Sessions = append(h.Sessions, impl.Session{Id: h.Next - 1, Until: h.Clock + h.Lease})
		return impl.Reply{N: h.Next - 1}
	case impl.RqClose:
		goByTheRule(h, q.Session)
		return impl.Reply{}
	case impl.RqRenew:
		s.Until = h.Clock + h.Lease
		return impl.Reply{N: s.Until}
	case impl.RqLock:
		x, granted, victims, code := askLockByTheRule(h.Doc, h.Table, hold(q.Session, q.Node, q.A))
		for _, victim := range victims {
			victimByTheRule(h, victim)
		}
		grantByTheRule(h, x, granted)
		return impl.Reply{Code: code}
	case impl.RqUnlock:
		return unlockByTheRule(h, s, q.Node)
	case impl.RqTick:
		return tickByTheRule(h, q.A)
	}
	return turnByWork(h, s, q)
}

func unlockByTheRule(h *impl.Host, s *impl.Session, node int) impl.Reply {
	x, granted, code := freeByTheRule(h.Doc, h.Table, s.Id, node)
	if code != impl.OK {
		return impl.Reply{Code: code}
	}
	if cover, _ := coverByTheRule(h.Doc, x.Holds, s.Id, s.At); s.At > 0 && cover != impl.LkX {
		return impl.Reply{Code: impl.ErrWork}
	}
	grantByTheRule(h, x, granted)
	return impl.Reply{}
}

func tickByTheRule(h *impl.Host, a int) impl.Reply {
	if h.Clock > 999999-a {
		return impl.Reply{Code: impl.ErrFull}
	}
	h.Clock += a
	went := 0
	for _, s := range slices.Clone(h.Sessions) {
		if s.Until <= h.Clock {
			tellByTheRule(h, event(s.Id, impl.ErrLapsed, s.At))
			goByTheRule(h, s.Id)
			went++
		}
	}
	return impl.Reply{N: went}
}

func turnByWork(h *impl.Host, s *impl.Session, q impl.Request) impl.Reply {
	_, there := nodeByTheRule(h.Doc, q.Node)
	cover, _ := coverByTheRule(h.Doc, h.Table.Holds, q.Session, q.Node)
	node := q.Kind == impl.RqCheckOut || q.Kind == impl.RqRead
	switch {
	case node && !there:
		return impl.Reply{Code: impl.ErrNone}
	case q.Kind == impl.RqCheckOut && s.At != 0, q.Kind != impl.RqCheckOut && q.Kind != impl.RqRead && s.At == 0:
		return impl.Reply{Code: impl.ErrWork}
	case q.Kind == impl.RqCheckOut && cover != impl.LkX, q.Kind == impl.RqRead && cover != impl.LkS && cover != impl.LkSIX && cover != impl.LkX:
		return impl.Reply{Code: impl.ErrMode}
	}
	switch q.Kind {
	case impl.RqCheckOut:
		s.At, s.Copy = q.Node, subByTheRule(h.Doc, q.Node)
		return impl.Reply{Doc: s.Copy}
	case impl.RqRead:
		return impl.Reply{Doc: subByTheRule(h.Doc, q.Node)}
	case impl.RqEdit:
		d, code := applyByTheRule(s.Copy, q.Edit)
		if code != impl.OK {
			return impl.Reply{Code: code}
		}
		s.Copy = d
		return impl.Reply{N: len(d.Nodes)}
	case impl.RqAbandon:
		s.At, s.Copy = 0, impl.Doc{}
		return impl.Reply{}
	}
	return checkInByTheRule(h, s)
}

// checkInByTheRule refuses, beyond the words of its row, a copy that would make the document one that the schema does not
// take, and breaks circles of waits that the new document would make: a right host stays right (P12).
func checkInByTheRule(h *impl.Host, s *impl.Session) impl.Reply {
	if node, code := checkDocByTheRule(h.Schema, s.Copy); code != impl.OK {
		return impl.Reply{Code: code, N: node}
	}
	d, code := spliceByTheRule(h.Doc, s.Copy)
	if code != impl.OK {
		return impl.Reply{Code: code}
	}
	if node, code := checkDocByTheRule(h.Schema, d); code != impl.OK {
		return impl.Reply{Code: code, N: node}
	}
	var x impl.Table
	for _, k := range h.Table.Holds {
		below := k.Node != s.At && slices.Contains(pathByTheRule(h.Doc, k.Node), s.At)
		if k.Session != s.Id || !below {
			x.Holds = append(x.Holds, k)
		}
	}
	for _, w := range h.Table.Waits {
		if _, there := nodeByTheRule(d, w.Node); there {
			x.Waits = append(x.Waits, w)
		} else {
			tellByTheRule(h, event(w.Session, impl.ErrNone, w.Node))
		}
	}
	s.At, s.Copy = 0, impl.Doc{}
	for circle := circlesByTheRule(d, x); len(circle) > 0; circle = circlesByTheRule(d, x) {
		victim := circle[len(circle)-1]
		x = withoutByTheRule(x, victim)
		victimByTheRule(h, victim)
	}
	h.Doc = d
	x, granted, _ := settleByTheRule(d, x)
	grantByTheRule(h, x, granted)
	return impl.Reply{N: len(d.Nodes)}
}

// The requests by their names.

func opening() impl.Request { return request(impl.RqOpen, 0, 0, 0) }

func closing(session int) impl.Request { return request(impl.RqClose, session, 0, 0) }

func renewing(session int) impl.Request { return request(impl.RqRenew, session, 0, 0) }

func locking(session, node, mode int) impl.Request {
	return request(impl.RqLock, session, node, mode)
}

func unlocking(session, node int) impl.Request { return request(impl.RqUnlock, session, node, 0) }

func checkingOut(session, node int) impl.Request { return request(impl.RqCheckOut, session, node, 0) }

func checkingIn(session int) impl.Request { return request(impl.RqCheckIn, session, 0, 0) }

func abandoning(session int) impl.Request { return request(impl.RqAbandon, session, 0, 0) }

func reading(session, node int) impl.Request { return request(impl.RqRead, session, node, 0) }

func ticking(a int) impl.Request { return request(impl.RqTick, 0, 0, a) }
