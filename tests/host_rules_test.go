package tests

import (
	"reflect"
	"slices"
	"testing"

	"loop.example/g00701/impl"
)

// hostAsks are calls of chapter 10 with hosts and requests that are right and with such as are not.
func hostAsks() []ask {
	var list []ask
	add := func(name string, f any, args ...any) { list = append(list, ask{name, f, args}) }
	addHost := func(h, other impl.Host) {
		add("HostOK", impl.HostOK, h)
		add("SameHost", impl.SameHost, h, h)
		add("SameHost", impl.SameHost, h, other)
		add("NewHost", impl.NewHost, h.Schema, h.Doc, h.Lease)
		add("AskAll", impl.AskAll, h, []impl.Request(nil))
		add("AskHost", impl.AskHost, h, opening())
		for _, id := range []int{0, 1, 4, 999} {
			add("SessionOf", impl.SessionOf, h, id)
		}
	}
	hosts := rightHosts()
	for i, h := range hosts {
		addHost(h, hosts[(i+1)%len(hosts)])
	}
	wrong := wrongHosts()
	for i := range 60 {
		h := wrong[i*37%len(wrong)]
		addHost(h, hosts[i%len(hosts)])
		add("AskHost", impl.AskHost, h, locking(1, 1, impl.LkX))
		add("AskAll", impl.AskAll, h, rightRequests()[:3])
	}
	for _, q := range slices.Concat(rightRequests(), wrongRequests()) {
		add("RequestOK", impl.RequestOK, q)
		add("AskHost", impl.AskHost, busyHost(), q)
	}
	for _, h := range hosts[:5] {
		for _, q := range busyRequests() {
			add("AskHost", impl.AskHost, h, q)
		}
		add("AskAll", impl.AskAll, h, busyRequests())
		add("AskAll", impl.AskAll, h, append(busyRequests(), impl.Request{}))
	}
	throw := &dice{233}
	for i, h := range hosts {
		row := thrownRow(throw, h, 20)
		for _, q := range row {
			add("AskHost", impl.AskHost, h, q)
		}
		add("AskAll", impl.AskAll, hosts[i], row)
	}
	return list
}

// busyRequests are of sessions of busyHost: each of them turns something, some are refused.
func busyRequests() []impl.Request {
	return []impl.Request{
		opening(), reading(1, 5), editing(1, impl.Edit{Kind: impl.EdText, Node: 9, Text: "turned"}), editing(1, impl.Edit{Kind: impl.EdDelete, Node: 8}), checkingIn(1), checkingOut(1, 7), checkingIn(4), checkingOut(4, 2), abandoning(1),
		locking(10, 9, impl.LkS), locking(4, 4, impl.LkS), locking(1, 4, impl.LkX), unlocking(6, 4), unlocking(1, 9), unlocking(1, 5), renewing(9), ticking(1), closing(4), reading(4, 2), ticking(49), ticking(500), closing(1), opening(),
	}
}

// thrownRow are requests that suit the host as it is then.
func thrownRow(throw *dice, h impl.Host, requests int) []impl.Request {
	var list []impl.Request
	for range requests {
		q := thrownRequest(throw, h)
		list = append(list, q)
		h, _, _ = askHostByTheRule(h, q)
	}
	return list
}

func TestP1RulesOfHosts(t *testing.T) {
	for _, a := range hostAsks() {
		askRules(t, a)
	}
}

func TestP1HostsDoNotHangOnWhatWasCalledAhead(t *testing.T) {
	askOrders(t, hostAsks())
}

// scribble writes into each number and text of a value, and behind the ends of its lists.
func scribble(v reflect.Value) {
	switch v.Kind() {
	case reflect.Slice:
		whole := v.Slice(0, v.Cap())
		for i := range whole.Len() {
			scribble(whole.Index(i))
		}
	case reflect.Struct:
		for i := range v.NumField() {
			scribble(v.Field(i))
		}
	case reflect.Int:
		if v.CanSet() {
			v.SetInt(-77)
		}
	}
}

// TestP1AHostWrittenIntoChangesNoOther writes into each list of an answer, also where the host is as it was: the argument
// and the other lists of the answer stay.
func TestP1AHostWrittenIntoChangesNoOther(t *testing.T) {
	for _, h := range rightHosts()[:6] {
		for _, q := range append(busyRequests(), reading(1, 1), locking(1, 77, 1)) {
			given := cloneHost(h)
			then, reply, code := impl.AskHost(given, q)
			wantHost, wantReply := told(reflect.ValueOf(then)), told(reflect.ValueOf(reply))
			scribble(reflect.ValueOf(reply))
			if told(reflect.ValueOf(then)) != wantHost || !alike(given, h) {
				t.Fatalf("AskHost(%s, %v): the reply shares memory", short(h), q)
			}
			_, reply, _ = impl.AskHost(given, q)
			scribble(reflect.ValueOf(then))
			if again, _, _ := impl.AskHost(given, q); !alike(given, h) || told(reflect.ValueOf(again)) != wantHost || told(reflect.ValueOf(reply)) != wantReply || code != impl.OK {
				t.Fatalf("AskHost(%s, %v): the host shares memory", short(h), q)
			}
		}
		given := cloneHost(h)
		then, replies, _ := impl.AskAll(given, busyRequests())
		want := told(reflect.ValueOf(then))
		for i := range replies {
			rest := told(reflect.ValueOf(replies[i+1:]))
			scribble(reflect.ValueOf(replies[i]))
			if told(reflect.ValueOf(then)) != want || told(reflect.ValueOf(replies[i+1:])) != rest || !alike(given, h) {
				t.Fatalf("AskAll(%s): reply %d shares memory", short(h), i)
			}
		}
		scribble(reflect.ValueOf(then))
		if !alike(given, h) {
			t.Fatalf("AskAll(%s): the host shares memory", short(h))
		}
	}
}

// TestP1AskAll: of no requests, of very many, of too many, and one after the other whatever the replies.
func TestP1AskAll(t *testing.T) {
	for _, h := range rightHosts() {
		for _, list := range [][]impl.Request{nil, {}} {
			then, replies, code := impl.AskAll(h, list)
			if code != impl.OK || len(replies) > 0 || !alike(then, h) {
				t.Fatalf("AskAll of none: %v, %v, %d", then, replies, code)
			}
		}
	}
	throw := &dice{239}
	for range 40 {
		h := demoHost()
		list := thrownRow(throw, h, 60)
		then, replies, code := impl.AskAll(h, list)
		wantHost, wantReplies, want := askAllByTheRule(h, list)
		if code != want || !alike(replies, wantReplies) || !alike(then, wantHost) {
			t.Fatalf("AskAll(%v) = %s, %v, %d; want %s, %v, %d", list, short(then), replies, code, short(wantHost), wantReplies, want)
		}
		for place := range list {
			wrong := slices.Insert(slices.Clone(list), place, request(impl.RqTick, 0, 0, 501))
			if then, replies, code := impl.AskAll(h, wrong); code != impl.ErrBad || len(replies) > 0 || !alike(then, impl.Host{}) {
				t.Fatalf("AskAll with a wrong request at %d: %v, %v, %d", place, then, replies, code)
			}
		}
	}
}

func TestP1AskAllOfVeryMany(t *testing.T) {
	many := slices.Repeat([]impl.Request{opening(), locking(1, 5, impl.LkX), checkingOut(1, 7), locking(2, 9, impl.LkS), checkingIn(1), closing(1), ticking(1), reading(2, 9)}, 512)
	then, replies, code := impl.AskAll(busyHost(), many)
	if code != impl.OK || len(replies) != 4096 || then.Clock != 612 || !impl.HostOK(then) {
		t.Error("AskAll of very many:", code, len(replies), then)
	}
	long := append(many, opening())
	for i, v := range []struct {
		h    impl.Host
		list []impl.Request
		code int
	}{
		{busyHost(), long, impl.ErrLong}, {impl.Host{}, long, impl.ErrLong}, {busyHost(), make([]impl.Request, 4097), impl.ErrLong}, {impl.Host{}, make([]impl.Request, 100000), impl.ErrLong},
		{busyHost(), make([]impl.Request, 4096), impl.ErrBad}, {impl.Host{}, make([]impl.Request, 4096), impl.ErrBad}, {impl.Host{}, many, impl.ErrBad}, {impl.Host{}, nil, impl.ErrBad}, {busyHost(), append(many[:4095:4095], impl.Request{}), impl.ErrBad},
	} {
		then, replies, code := impl.AskAll(v.h, v.list)
		if code != v.code || len(replies) > 0 || !alike(then, impl.Host{}) {
			t.Errorf("%d: AskAll: %d, %v, %v; want %d", i, code, replies, then, v.code)
		}
	}
}

// TestP1VeryLongListsInAHost are bounded by what makes it right alone: the code is ErrBad, and the call ends at once.
func TestP1VeryLongListsInAHost(t *testing.T) {
	const many = 1000000
	for i, turn := range []func(*impl.Host){
		func(h *impl.Host) { h.Schema = make([]impl.Rule, many) }, func(h *impl.Host) { h.Schema = append(slices.Clone(h.Schema), make([]impl.Rule, 4092)...) }, func(h *impl.Host) { h.Schema[0].Terms = make([]impl.Term, many) }, func(h *impl.Host) { h.Schema[0].Terms[0].Kinds = make([]int, many) },
		func(h *impl.Host) { h.Doc.Nodes = make([]impl.Node, many) }, func(h *impl.Host) { h.Doc.Nodes[0].Kids = make([]int, many) }, func(h *impl.Host) { h.Doc.Nodes[1].Text = zeros(many) },
		func(h *impl.Host) { h.Sessions = make([]impl.Session, many) }, func(h *impl.Host) { h.Sessions[0].Copy.Nodes = make([]impl.Node, many) }, func(h *impl.Host) { h.Sessions[4].Copy.Nodes = make([]impl.Node, many) },
		func(h *impl.Host) { h.Table.Holds = make([]impl.Hold, many) }, func(h *impl.Host) { h.Table.Waits = make([]impl.Hold, many) }, func(h *impl.Host) { h.Events = slices.Repeat(h.Events[2:], many) },
	} {
		h := turnedHost(busyHost(), turn)
		_, session := impl.SessionOf(h, 1)
		_, _, ask := impl.AskHost(h, opening())
		_, _, all := impl.AskAll(h, []impl.Request{opening()})
		if impl.HostOK(h) || impl.SameHost(h, h) || impl.SameHost(busyHost(), h) || session != impl.ErrBad || ask != impl.ErrBad || all != impl.ErrBad {
			t.Error(i, session, ask, all)
		}
	}
}

// TestP1OrderOfCodesOfRequests has several faults in one request: session, node, what is held, what is checked out, mode.
func TestP1OrderOfCodesOfRequests(t *testing.T) {
	h := working(hostWith(4, table(holds(hold(1, 5, impl.LkX), hold(2, 4, impl.LkS)), hold(2, 5, impl.LkX))), 1, 7)
	for i, v := range []struct {
		q    impl.Request
		code int
	}{
		{locking(5, 77, 1), impl.ErrLapsed}, {locking(2, 77, 1), impl.ErrNone}, {locking(2, 4, 1), impl.ErrHeld}, {locking(1, 5, 1), impl.OK},
		{unlocking(5, 77), impl.ErrLapsed}, {unlocking(1, 77), impl.ErrNone}, {unlocking(1, 7), impl.ErrHeld}, {unlocking(1, 5), impl.ErrWork},
		{checkingOut(5, 77), impl.ErrLapsed}, {checkingOut(1, 77), impl.ErrNone}, {checkingOut(1, 1), impl.ErrWork}, {checkingOut(2, 4), impl.ErrMode}, {checkingOut(2, 77), impl.ErrNone},
		{editing(5, impl.Edit{Kind: impl.EdDelete, Node: 77}), impl.ErrLapsed}, {editing(2, impl.Edit{Kind: impl.EdDelete, Node: 77}), impl.ErrWork}, {editing(1, impl.Edit{Kind: impl.EdDelete, Node: 5}), impl.ErrNone}, {editing(1, impl.Edit{Kind: impl.EdDelete, Node: 7}), impl.ErrRoot},
		{checkingIn(5), impl.ErrLapsed}, {checkingIn(2), impl.ErrWork}, {abandoning(5), impl.ErrLapsed}, {abandoning(2), impl.ErrWork}, {reading(5, 77), impl.ErrLapsed}, {reading(2, 77), impl.ErrNone}, {reading(2, 5), impl.ErrMode},
		{closing(5), impl.ErrLapsed}, {renewing(5), impl.ErrLapsed},
	} {
		then := askRequest(t, h, v.q)
		_, reply, code := impl.AskHost(h, v.q)
		if code != impl.OK || reply.Code != v.code || !alike(then, h) {
			t.Errorf("%d: AskHost(%v): %v, %d; want code %d", i, v.q, reply, code, v.code)
		}
	}
	// A wrong host and a wrong request have one code, whatever else is wrong.
	for _, v := range []struct {
		h impl.Host
		q impl.Request
	}{{impl.Host{}, opening()}, {h, impl.Request{}}, {impl.Host{}, impl.Request{}}, {h, locking(5, 77, 6)}, {h, locking(0, 77, 1)}} {
		if then, reply, code := impl.AskHost(v.h, v.q); code != impl.ErrBad || !alike(then, impl.Host{}) || !alike(reply, impl.Reply{}) {
			t.Errorf("AskHost(%s, %v) = %v, %v, %d", short(v.h), v.q, then, reply, code)
		}
	}
}
