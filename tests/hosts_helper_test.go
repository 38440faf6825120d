package tests

import (
	"math"
	"slices"

	"loop.example/g00701/impl"
)

// busyHost has something of everything: 1 has the list, covered from above, with another number of nodes in its copy; 4
// has the intro; 6 and 9 wait; the Ids have gaps, and one session has nothing.
func busyHost() impl.Host {
	h := demoHost()
	h.Clock, h.Next = 100, 12
	h.Sessions = []impl.Session{{Id: 1, Until: 101}, {Id: 4, Until: 150}, {Id: 6, Until: 120}, {Id: 9, Until: 130}, {Id: 10, Until: 150}}
	h.Table = table(holds(hold(1, 5, impl.LkX), hold(1, 9, impl.LkS), hold(4, 2, impl.LkX), hold(6, 4, impl.LkS)), hold(9, 4, impl.LkX), hold(6, 8, impl.LkS))
	h.Events = []impl.Event{event(2, impl.ErrLapsed, 0), event(11, impl.ErrSame, 999999), event(4, impl.OK, 2)}
	h = working(working(h, 1, 7), 4, 2)
	h.Sessions[0].Copy, _ = applyByTheRule(h.Sessions[0].Copy, impl.Edit{Kind: impl.EdInsert, Node: 7, A: 5})
	return h
}

// fullHost has as much of everything as there may be.
func fullHost() impl.Host {
	h := demoHost()
	h.Clock, h.Lease, h.Next = 999999, 500, 1000
	for i := range 6 {
		h.Sessions = append(h.Sessions, impl.Session{Id: 994 + i, Until: 1000000 + 499*(i%2)})
		for node := 1; node <= 5; node++ {
			h.Table.Holds = append(h.Table.Holds, hold(994+i, node, impl.LkIS))
		}
		h.Table.Waits = append(h.Table.Waits, hold(999-i, 6+i%4, impl.LkS))
	}
	for i := range 40 {
		h.Events = append(h.Events, event(1+i, i%22, i))
	}
	return h
}

// rootHost has its one session working on the whole document.
func rootHost() impl.Host {
	return working(hostWith(1, table(holds(hold(1, 1, impl.LkX)))), 1, 1)
}

func rightHosts() []impl.Host {
	list := []impl.Host{demoHost(), hostWith(6, impl.Table{}), busyHost(), fullHost(), rootHost()}
	for _, turn := range []func(*impl.Host){
		func(h *impl.Host) { h.Lease, h.Sessions[0].Until = 500, 500 },
		func(h *impl.Host) { h.Lease, h.Sessions[0].Until = 1, 1 },
		func(h *impl.Host) { h.Next = 1000 },
		func(h *impl.Host) { h.Clock, h.Sessions[0].Until = 999999, 1000000 },
		func(h *impl.Host) { h.Doc.Next = 999999 },
		func(h *impl.Host) { h.Sessions, h.Next, h.Table = nil, 1, impl.Table{} },
		func(h *impl.Host) { h.Sessions, h.Events, h.Table = []impl.Session{}, []impl.Event{}, table(holds()) },
		func(h *impl.Host) { h.Sessions[0].Copy.Nodes = []impl.Node{} },
		// What waits could be granted: chapter 10 does not ask that a table is settled.
		func(h *impl.Host) { h.Table = table(nil, hold(1, 1, impl.LkX)) },
		func(h *impl.Host) { h.Table = table(holds(hold(1, 1, impl.LkX)), hold(1, 9, impl.LkS)) },
	} {
		list = append(list, turnedHost(hostWith(1, impl.Table{}), turn))
	}
	// Copies of which only the Root is asked: others than the node, of other kinds, with other numbers.
	for _, sub := range []impl.Doc{{Root: 1, Next: 2, Nodes: []impl.Node{{Id: 1, Kind: 1}}}, chainDoc(6), fanDoc(12), bushDoc(40), {Root: 1, Next: 999999, Nodes: []impl.Node{{Id: 1, Kind: 8, Text: "eight"}}}} {
		list = append(list, turnedHost(rootHost(), func(h *impl.Host) { h.Sessions[0].Copy = sub }))
	}
	throw := &dice{191}
	for len(list) < 40 {
		list = append(list, thrownHost(throw, 1))
	}
	return list
}

// thrownPair is a schema and a document of at least so many nodes that it takes.
func thrownPair(throw *dice, least int) ([]impl.Rule, impl.Doc) {
	for {
		rules := thrownRules(throw)
		if d, fits := thrownTaken(throw, rules); fits && len(d.Nodes) >= least {
			return rules, d
		}
	}
}

// thrownHost is a right host of a document of at least so many nodes: what would not be right is left out.
func thrownHost(throw *dice, least int) impl.Host {
	rules, d := thrownPair(throw, least)
	h := impl.Host{Schema: rules, Doc: d, Clock: throw.below(1000), Lease: 1 + throw.below(20), Next: 1}
	for range throw.below(7) {
		h.Next += 1 + throw.below(2)
		h.Sessions = append(h.Sessions, impl.Session{Id: h.Next - 1, Until: h.Clock + 1 + throw.below(h.Lease)})
	}
	for range throw.below(4) * len(h.Sessions) {
		k := hold(h.Sessions[throw.below(len(h.Sessions))].Id, d.Nodes[throw.below(len(d.Nodes))].Id, 1+throw.below(5))
		x := table(h.Table.Holds, append(slices.Clone(h.Table.Waits), k)...)
		if throw.below(3) > 0 {
			with, _ := putByTheRule(d, h.Table.Holds, k)
			x = table(with, h.Table.Waits...)
		}
		peace, _ := peacefulByTheRule(d, x.Holds)
		if peace && tableByTheRule(d, x) && len(circlesByTheRule(d, x)) == 0 {
			h.Table = x
		}
	}
	for _, k := range h.Table.Holds {
		if s := sessionIn(&h, k.Session); k.Mode == impl.LkX && s.At == 0 && throw.below(3) > 0 {
			s.At = k.Node
			s.Copy = subByTheRule(d, k.Node)
			for range throw.below(9) {
				s.Copy, _ = applyByTheRule(s.Copy, thrownEdit(throw, s.Copy))
			}
		}
	}
	for range throw.below(3) * min(h.Next-1, 4) {
		h.Events = append(h.Events, event(1+throw.below(h.Next-1), throw.below(22), throw.below(1000000)))
	}
	return h
}

type hostTurn struct {
	what string
	make func(*impl.Host)
}

// wrongHostTurns make of busyHost one that is not right.
func wrongHostTurns() []hostTurn {
	list := []hostTurn{
		{"a document of another schema", func(h *impl.Host) { h.Doc.Nodes[1].Kind = 4 }},
		{"a Text where none may stand", func(h *impl.Host) { h.Doc.Nodes[2].Text = "x" }},
		{"a Kind of no rule", func(h *impl.Host) { h.Doc.Nodes[8].Kind = 6 }},
		{"another schema", func(h *impl.Host) { h.Schema = plainRules(5) }},
		{"a schema of fewer rules", func(h *impl.Host) { h.Schema = plainRules(4) }},
		{"no host at all", func(h *impl.Host) { *h = impl.Host{} }},
		{"a very long list of sessions", func(h *impl.Host) { h.Sessions = make([]impl.Session, 100000) }},
		{"seven sessions", func(h *impl.Host) {
			h.Sessions = h.Sessions[:2]
			for id := 5; id <= 9; id++ {
				h.Sessions = append(h.Sessions, impl.Session{Id: id, Until: 101})
			}
		}},
		{"sessions that fall", func(h *impl.Host) { h.Sessions[2], h.Sessions[3] = h.Sessions[3], h.Sessions[2] }},
		{"sessions alike", func(h *impl.Host) { h.Sessions[4].Id = 9 }},
		{"a session that is Next", func(h *impl.Host) { h.Sessions[4].Id = 12 }},
		{"a session above MaxSession", func(h *impl.Host) { h.Next, h.Sessions[4].Id = 1000, 1000 }},
		{"a copy that is none's", func(h *impl.Host) { h.Sessions[4].Copy = demoDoc() }},
		{"a copy of no nodes that is not zero", func(h *impl.Host) { h.Sessions[4].Copy.Next = 2 }},
		{"another copy of no nodes that is not zero", func(h *impl.Host) { h.Sessions[4].Copy.Root = 1 }},
		{"no copy", func(h *impl.Host) { h.Sessions[0].Copy = impl.Doc{} }},
		{"a copy that is not right", func(h *impl.Host) { h.Sessions[0].Copy.Nodes[1].Id = 7 }},
		{"a copy with another Root", func(h *impl.Host) { h.Sessions[0].Copy = subByTheRule(h.Doc, 8) }},
		{"the whole document as a copy", func(h *impl.Host) { h.Sessions[0].Copy = h.Doc }},
		{"a copy of a node that is not covered", func(h *impl.Host) { *h = working(*h, 1, 4) }},
		{"a copy of a node above the one that is covered", func(h *impl.Host) { *h = working(*h, 4, 1) }},
		{"a copy of a node that is covered with S", func(h *impl.Host) { *h = working(*h, 6, 4) }},
		{"a copy of a node that is covered with SIX", func(h *impl.Host) { h.Table.Holds[2].Mode = impl.LkSIX }},
		{"a copy of a node that is covered with IX", func(h *impl.Host) { h.Table.Holds[0].Mode = impl.LkIX }},
		{"a copy of a node that another one covers", func(h *impl.Host) { *h = working(*h, 10, 2) }},
		{"a copy of a node that is waited for with X", func(h *impl.Host) { h.Table.Holds = h.Table.Holds[:3]; *h = working(*h, 9, 4) }},
		{"a copy of a node that is not there", func(h *impl.Host) { h.Sessions[0].At = 10; h.Sessions[0].Copy.Root = 10 }},
		{"At below 0", func(h *impl.Host) { h.Sessions[0].At = -7 }},
		{"a very large At", func(h *impl.Host) { h.Sessions[0].At = math.MaxInt }},
		{"At without a copy", func(h *impl.Host) { h.Sessions[4].At = 7 }},
		{"a copy without At", func(h *impl.Host) { h.Sessions[0].At = 0 }},
		{"a lock of a session that is not there", func(h *impl.Host) { h.Table.Holds[3].Session = 7 }},
		{"a lock of a session that was never there", func(h *impl.Host) { h.Table.Holds[3].Session = 999 }},
		{"a wait of a session that is not there", func(h *impl.Host) { h.Table.Waits[1].Session = 11 }},
		{"locks that are at war", func(h *impl.Host) { h.Table.Holds[3] = hold(6, 9, impl.LkIS) }},
		{"locks that are at war above", func(h *impl.Host) { h.Table.Holds[3] = hold(6, 1, impl.LkS) }},
		{"a circle of waits", func(h *impl.Host) { h.Table.Waits = append(h.Table.Waits, hold(1, 4, impl.LkX)) }},
		{"a circle of waits apart", func(h *impl.Host) { h.Table.Waits = holds(hold(4, 4, impl.LkX), hold(6, 2, impl.LkX)) }},
		{"41 events", func(h *impl.Host) { h.Events = slices.Repeat(h.Events[2:], 41) }},
		{"a very long list of events", func(h *impl.Host) { h.Events = slices.Repeat(h.Events[2:], 100000) }},
		{"an event of Next", func(h *impl.Host) { h.Events[0].Session = 12 }},
		{"a code of no chapter", func(h *impl.Host) { h.Events[0].Code = 22 }},
		{"an event of a node beyond MaxNumber", func(h *impl.Host) { h.Events[0].Node = 1000000 }},
		{"an event of a node below 0", func(h *impl.Host) { h.Events[2].Node = -1 }},
		{"Until at Clock", func(h *impl.Host) { h.Sessions[0].Until = 100 }},
		{"Until above Clock by more than Lease", func(h *impl.Host) { h.Sessions[4].Until = 151 }},
		{"a Lease that is too short for one", func(h *impl.Host) { h.Lease = 49 }},
		{"a Clock that has come to one", func(h *impl.Host) { h.Clock = 101 }},
		{"a Clock behind one", func(h *impl.Host) { h.Clock = 99 }},
		{"Next at a session", func(h *impl.Host) { h.Next, h.Events = 10, nil }},
		{"Next at an event's session", func(h *impl.Host) { h.Next = 11 }},
	}
	for _, n := range []int{math.MinInt, -1000, -1, 0, 1000000, 1<<32 + 1, math.MaxInt - 50, math.MaxInt} {
		list = append(list,
			hostTurn{"a wrong Lease", func(h *impl.Host) { h.Lease = n }}, hostTurn{"a wrong Next", func(h *impl.Host) { h.Next = n }},
			hostTurn{"a wrong Until", func(h *impl.Host) { h.Sessions[0].Until = n }}, hostTurn{"a wrong Id", func(h *impl.Host) { h.Sessions[4].Id = n }},
			hostTurn{"a wrong event", func(h *impl.Host) { h.Events[0].Session = n }}, hostTurn{"a wrong first Id", func(h *impl.Host) { h.Sessions[0].Id = n }},
			hostTurn{"a wrong lock", func(h *impl.Host) { h.Table.Holds[3].Session = n }}, hostTurn{"a wrong wait", func(h *impl.Host) { h.Table.Waits[0].Session = n }},
			hostTurn{"a wrong Clock", func(h *impl.Host) { h.Clock = n }},
		)
		if n != 0 {
			list = append(list, hostTurn{"a wrong code", func(h *impl.Host) { h.Events[1].Code = n }}, hostTurn{"a wrong At", func(h *impl.Host) { h.Sessions[4].At = n }})
		}
	}
	return list
}

// wrongHosts break each sentence of chapter 10 that is of hosts.
func wrongHosts() []impl.Host {
	var list []impl.Host
	for _, w := range wrongHostTurns() {
		list = append(list, turnedHost(busyHost(), w.make))
	}
	for _, turn := range []func(*impl.Host){
		func(h *impl.Host) { h.Lease = 501 },
		func(h *impl.Host) { h.Lease = 0 },
		func(h *impl.Host) { h.Next = 1001 },
		func(h *impl.Host) { h.Next = 0 },
		func(h *impl.Host) { h.Clock = -1 },
		func(h *impl.Host) { h.Clock = 1000000 },
		func(h *impl.Host) { h.Events = []impl.Event{event(1, 0, 0)} },
	} {
		list = append(list, turnedHost(demoHost(), turn))
	}
	for _, n := range []int{math.MinInt, -1, 0, 2, 1000, math.MaxInt} {
		list = append(list, turnedHost(hostWith(1, impl.Table{}), func(h *impl.Host) { h.Sessions[0].Id = n }))
	}
	for _, d := range wrongDocs() {
		list = append(list, turnedHost(demoHost(), func(h *impl.Host) { h.Doc = d }))
		if d.Root == 1 {
			list = append(list, turnedHost(rootHost(), func(h *impl.Host) { h.Sessions[0].Copy = d }))
		}
	}
	for _, rules := range wrongSchemas() {
		list = append(list, turnedHost(demoHost(), func(h *impl.Host) { h.Schema = rules }))
	}
	for _, x := range wrongTables() {
		list = append(list, turnedHost(hostWith(6, impl.Table{}), func(h *impl.Host) { h.Table = x }))
	}
	return list
}

func rightRequests() []impl.Request {
	list := []impl.Request{request(impl.RqOpen, 0, 0, 0), request(impl.RqTick, 0, 0, 1), request(impl.RqTick, 0, 0, 500)}
	for _, session := range []int{1, 4, 6, 9, 999} {
		for _, kind := range []int{impl.RqClose, impl.RqRenew, impl.RqCheckIn, impl.RqAbandon} {
			list = append(list, request(kind, session, 0, 0))
		}
		for _, node := range []int{1, 5, 9, 999999} {
			list = append(list, request(impl.RqUnlock, session, node, 0), request(impl.RqCheckOut, session, node, 0), request(impl.RqRead, session, node, 0), request(impl.RqLock, session, node, impl.LkIS), request(impl.RqLock, session, node, impl.LkX))
		}
	}
	for i, e := range rightEdits() {
		list = append(list, editing([]int{1, 4, 999}[i%3], e))
	}
	return list
}

// wrongRequests have numbers out of their bounds, what their kind does not have, or no kind.
func wrongRequests() []impl.Request {
	var list []impl.Request
	right := []impl.Request{
		request(impl.RqOpen, 0, 0, 0), request(impl.RqClose, 1, 0, 0), request(impl.RqRenew, 1, 0, 0), request(impl.RqLock, 1, 5, 5), request(impl.RqUnlock, 1, 5, 0), request(impl.RqCheckOut, 1, 5, 0),
		editing(1, impl.Edit{Kind: impl.EdDelete, Node: 9}), request(impl.RqCheckIn, 1, 0, 0), request(impl.RqAbandon, 1, 0, 0), request(impl.RqRead, 1, 5, 0), request(impl.RqTick, 0, 0, 1),
	}
	for _, q := range right {
		for _, n := range []int{math.MinInt, -1, 0, 1, 6, 501, 1000, 1000000, 1<<32 + 1, math.MaxInt} {
			for _, other := range []impl.Request{{Kind: q.Kind, Session: n, Node: q.Node, A: q.A, Edit: q.Edit}, {Kind: q.Kind, Session: q.Session, Node: n, A: q.A, Edit: q.Edit}, {Kind: q.Kind, Session: q.Session, Node: q.Node, A: n, Edit: q.Edit}, {Kind: n, Session: q.Session, Node: q.Node, A: q.A, Edit: q.Edit}} {
				if !requestByTheRule(other) {
					list = append(list, other)
				}
			}
		}
		for _, e := range []impl.Edit{{}, {Kind: impl.EdDelete, Node: 9}, {Kind: 1}, {Node: 1}, {A: 1}, {B: 1}, {Text: "t"}} {
			q.Edit = e
			if !requestByTheRule(q) {
				list = append(list, q)
			}
		}
	}
	for _, e := range wrongEdits() {
		list = append(list, editing(1, e))
	}
	for _, kind := range []int{math.MinInt, -1, 0, 12, 13, 1<<32 + 1, math.MaxInt} {
		list = append(list, request(kind, 0, 0, 0), request(kind, 1, 0, 0), request(kind, 1, 1, 1))
	}
	return list
}
