package tests

import (
	"math"
	"slices"
	"testing"

	"loop.example/g00701/impl"
)

func TestP12Constants(t *testing.T) {
	kinds := []int{impl.RqOpen, impl.RqClose, impl.RqRenew, impl.RqLock, impl.RqUnlock, impl.RqCheckOut, impl.RqEdit, impl.RqCheckIn, impl.RqAbandon, impl.RqRead, impl.RqTick}
	for i, kind := range kinds {
		if kind != i+1 {
			t.Error("kinds:", kinds)
		}
	}
	if impl.MaxOpen != 6 || impl.MaxLease != 500 || impl.MaxEvent != 40 {
		t.Error("bounds:", impl.MaxOpen, impl.MaxLease, impl.MaxEvent)
	}
}

func TestP12RightHosts(t *testing.T) {
	for i, h := range rightHosts() {
		if !hostByTheRule(h) || !impl.HostOK(h) {
			t.Errorf("%d: HostOK(%+v) is false", i, h)
		}
	}
}

func TestP12WrongHosts(t *testing.T) {
	for _, w := range wrongHostTurns() {
		h := turnedHost(busyHost(), w.make)
		if hostByTheRule(h) || impl.HostOK(h) {
			t.Errorf("%s: HostOK is true", w.what)
		}
	}
	for i, h := range wrongHosts() {
		if hostByTheRule(h) || impl.HostOK(h) {
			t.Fatalf("%d: HostOK(%s) is true", i, short(h))
		}
		_, session := impl.SessionOf(h, 1)
		_, _, ask := impl.AskHost(h, request(impl.RqOpen, 0, 0, 0))
		_, _, tick := impl.AskHost(h, request(impl.RqTick, 0, 0, 500))
		_, _, all := impl.AskAll(h, nil)
		if got := []int{session, ask, tick, all}; !slices.Equal(got, []int{1, 1, 1, 1}) {
			t.Fatalf("%d: codes of a wrong host: %v", i, got)
		}
	}
}

func TestP12NewHosts(t *testing.T) {
	for i, v := range []struct {
		schema []impl.Rule
		d      impl.Doc
		lease  int
		code   int
	}{
		{demoRules(), demoDoc(), 50, impl.OK}, {demoRules(), demoDoc(), 1, impl.OK}, {demoRules(), demoDoc(), 500, impl.OK}, {plainRules(8), chainDoc(1), 7, impl.OK}, {greatRules(), impl.Doc{Root: 999998, Next: 999999, Nodes: []impl.Node{{Id: 999998, Kind: 1, Kids: []int{4}}, {Id: 4, Kind: 1}}}, 7, impl.ErrBad},
		{demoRules(), demoDoc(), 0, impl.ErrRange}, {demoRules(), demoDoc(), 501, impl.ErrRange}, {demoRules(), demoDoc(), -1, impl.ErrRange}, {demoRules(), demoDoc(), math.MinInt, impl.ErrRange}, {demoRules(), demoDoc(), math.MaxInt, impl.ErrRange},
		{nil, demoDoc(), 50, impl.ErrBad}, {plainRules(9), demoDoc(), 50, impl.ErrBad}, {demoRules(), impl.Doc{}, 50, impl.ErrBad}, {demoRules(), chainDoc(7), 50, impl.ErrBad},
		{demoRules(), fanDoc(1), 50, impl.OK}, {demoRules(), fanDoc(0), 50, impl.ErrContent}, {demoRules(), chainDoc(2), 50, impl.ErrContent}, {plainRules(1), demoDoc(), 50, impl.ErrContent}, {plainRules(1), fanDoc(0), 50, impl.ErrKind},
		// Several faults at once.
		{plainRules(impl.MaxList + 1), impl.Doc{}, 0, impl.ErrLong}, {make([]impl.Rule, impl.MaxList), impl.Doc{}, 0, impl.ErrBad}, {nil, chainDoc(2), 0, impl.ErrBad}, {plainRules(1), impl.Doc{}, 0, impl.ErrBad}, {plainRules(1), fanDoc(0), 0, impl.ErrKind}, {demoRules(), chainDoc(2), 501, impl.ErrContent},
	} {
		h, code := impl.NewHost(v.schema, v.d, v.lease)
		want := impl.Host{Schema: v.schema, Doc: v.d, Lease: v.lease, Next: 1}
		if v.code != impl.OK {
			want = impl.Host{}
		}
		if code != v.code || !alike(h, want) || impl.HostOK(h) != (code == impl.OK) {
			t.Errorf("%d: NewHost: %v, %d; want code %d", i, h, code, v.code)
		}
	}
}

func TestP12NewHostsOfAllSorts(t *testing.T) {
	throw := &dice{193}
	var made tally
	for range 2000 {
		rules, d := thrownPair(throw, 1)
		d = disturbed(throw, d, throw.below(2))
		lease := throw.below(502)
		_, want := checkDocByTheRule(rules, d)
		if want == impl.OK && (lease < 1 || lease > 500) {
			want = impl.ErrRange
		}
		h, code := impl.NewHost(rules, d, lease)
		if code != want || impl.HostOK(h) != (code == impl.OK) {
			t.Fatalf("NewHost(%v, %v, %d) = %v, %d; want %d", rules, d, lease, h, code, want)
		}
		made.count(code == impl.OK)
	}
	if made.yes < 500 || made.no < 100 {
		t.Error("too few of one sort:", made)
	}
}

func TestP12Requests(t *testing.T) {
	for _, q := range rightRequests() {
		if !requestByTheRule(q) || !impl.RequestOK(q) {
			t.Errorf("RequestOK(%v) is false", q)
		}
	}
	for _, q := range wrongRequests() {
		if requestByTheRule(q) || impl.RequestOK(q) {
			t.Errorf("RequestOK(%s) is true", short(q))
		}
		h, reply, code := impl.AskHost(busyHost(), q)
		if code != impl.ErrBad || !alike(h, impl.Host{}) || !alike(reply, impl.Reply{}) {
			t.Errorf("AskHost(%s) = %v, %v, %d", short(q), h, reply, code)
		}
	}
}

// TestP12EveryRequest has each number of a request at its bounds and beyond, of each kind.
func TestP12EveryRequest(t *testing.T) {
	for kind := -1; kind <= 13; kind++ {
		for _, session := range []int{-1, 0, 1, 999, 1000} {
			for _, node := range []int{-1, 0, 1, 999999, 1000000} {
				for _, a := range []int{-1, 0, 1, 5, 6, 500, 501} {
					for _, e := range []impl.Edit{{}, {Kind: impl.EdLift, Node: 3}, {Kind: impl.EdLift}} {
						q := impl.Request{Kind: kind, Session: session, Node: node, A: a, Edit: e}
						if impl.RequestOK(q) != requestByTheRule(q) {
							t.Fatalf("RequestOK(%v) is %v", q, !requestByTheRule(q))
						}
					}
				}
			}
		}
	}
}

func TestP12SessionsOfAHost(t *testing.T) {
	for _, h := range rightHosts() {
		for _, id := range []int{math.MinInt, -1, 0, 1, 2, 4, 5, 9, 10, 11, 12, 994, 999, 1000, math.MaxInt} {
			s, code := impl.SessionOf(h, id)
			if in := sessionIn(&h, id); in != nil && (code != impl.OK || !alike(s, *in)) || in == nil && (code != impl.ErrNone || !alike(s, impl.Session{})) {
				t.Errorf("SessionOf(%v, %d) = %v, %d", h, id, s, code)
			}
		}
	}
}

// TestP12AlikeHosts: a right host is alike with itself, and with no other one.
func TestP12AlikeHosts(t *testing.T) {
	list := rightHosts()
	for i, a := range list {
		for j, b := range list {
			if want := alike(a, b); impl.SameHost(a, cloneHost(b)) != want || i == j && !want {
				t.Errorf("SameHost of %d and %d is %v", i, j, !want)
			}
		}
	}
	for i, h := range wrongHosts() {
		if impl.SameHost(h, h) || impl.SameHost(h, busyHost()) || impl.SameHost(busyHost(), h) {
			t.Fatalf("%d: SameHost of what is not right", i)
		}
	}
}

// TestP12HostsThatDifferInOneThing are right, and are not alike.
func TestP12HostsThatDifferInOneThing(t *testing.T) {
	for i, turn := range []func(*impl.Host){
		func(h *impl.Host) { h.Schema[4].Name = "other" }, func(h *impl.Host) { h.Schema[4].Terms[0].Many = 3 }, func(h *impl.Host) { h.Schema[4].Terms[0].Kinds = []int{2, 3, 4} },
		func(h *impl.Host) { h.Doc.Next = 11 }, func(h *impl.Host) { h.Doc.Nodes[8].Text = "other" }, func(h *impl.Host) { h.Doc.Nodes[0].Attr = 1 }, func(h *impl.Host) { h.Doc.Nodes[0].Kids = []int{2, 5, 3} },
		func(h *impl.Host) { h.Clock, h.Sessions[0].Until = 101, 102 }, func(h *impl.Host) { h.Lease = 51 }, func(h *impl.Host) { h.Next = 13 },
		func(h *impl.Host) { h.Sessions[4].Id = 11 }, func(h *impl.Host) { h.Sessions[0].Until = 102 }, func(h *impl.Host) { h.Sessions = h.Sessions[:4] }, func(h *impl.Host) { h.Sessions = append(h.Sessions, impl.Session{Id: 11, Until: 150}) },
		func(h *impl.Host) { h.Sessions[0].Copy.Next = 12 }, func(h *impl.Host) { h.Sessions[0].Copy.Nodes[2].Attr = 8 }, func(h *impl.Host) { *h = working(*h, 1, 7) }, func(h *impl.Host) { *h = working(*h, 1, 5) }, func(h *impl.Host) { h.Sessions[1].At, h.Sessions[1].Copy = 0, impl.Doc{} },
		func(h *impl.Host) { h.Table.Holds[3].Mode = impl.LkIS }, func(h *impl.Host) { h.Table.Holds[3].Node = 3 }, func(h *impl.Host) { h.Table.Holds = h.Table.Holds[:3] }, func(h *impl.Host) { h.Table.Waits = h.Table.Waits[:1] }, func(h *impl.Host) { h.Table.Waits[1].Node = 9 }, func(h *impl.Host) { slices.Reverse(h.Table.Waits) },
		func(h *impl.Host) { h.Events[0].Session = 3 }, func(h *impl.Host) { h.Events[0].Code = 0 }, func(h *impl.Host) { h.Events[0].Node = 1 }, func(h *impl.Host) { h.Events = h.Events[1:] }, func(h *impl.Host) { slices.Reverse(h.Events) },
	} {
		h := turnedHost(busyHost(), turn)
		if !impl.HostOK(h) {
			t.Errorf("%d is not right: %v", i, h)
		}
		if impl.SameHost(h, busyHost()) || impl.SameHost(busyHost(), h) || !impl.SameHost(h, h) {
			t.Errorf("%d: SameHost", i)
		}
	}
	for i, turn := range []func(*impl.Host){func(h *impl.Host) { h.Clock = 1 }, func(h *impl.Host) { h.Lease = 51 }, func(h *impl.Host) { h.Next = 2 }, func(h *impl.Host) { h.Doc.Next = 11 }} {
		if h := turnedHost(demoHost(), turn); impl.SameHost(h, demoHost()) || !impl.SameHost(h, h) {
			t.Errorf("%d: SameHost of hosts without sessions", i)
		}
	}
	// Nil and empty lists are the same.
	empty := turnedHost(hostWith(1, impl.Table{}), func(h *impl.Host) {
		h.Table, h.Events, h.Sessions[0].Copy.Nodes = impl.Table{Holds: []impl.Hold{}, Waits: []impl.Hold{}}, []impl.Event{}, []impl.Node{}
		h.Doc.Nodes[8].Kids, h.Schema[2].Terms = []int{}, []impl.Term{}
	})
	if !impl.SameHost(empty, hostWith(1, impl.Table{})) || !impl.SameHost(hostWith(1, impl.Table{}), empty) {
		t.Error("SameHost of nil and empty lists")
	}
	if nobody := turnedHost(demoHost(), func(h *impl.Host) { h.Sessions = []impl.Session{} }); !impl.SameHost(nobody, demoHost()) {
		t.Error("SameHost of no sessions")
	}
}
