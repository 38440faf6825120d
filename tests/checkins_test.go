package tests

import (
	"slices"
	"testing"

	"loop.example/g00701/impl"
)

// anyHost takes documents of nodes of kind 1 alone; its one session has all of it, and a copy of a node.
func anyHost(d impl.Doc, node int) impl.Host {
	h := hostWith(1, table(holds(hold(1, d.Root, impl.LkX))))
	h.Schema, h.Doc = []impl.Rule{{Name: "any", Terms: []impl.Term{term(2, 1)}}}, d
	return working(h, 1, node)
}

// plainDoc is of so many nodes of kind 1.
func plainDoc(nodes int) impl.Doc {
	d := bushDoc(nodes)
	eachNode(&d, func(n *impl.Node) { n.Kind = 1 })
	return d
}

// TestP14Edits: of each kind, done and refused, on a copy alone.
func TestP14Edits(t *testing.T) {
	h := working(hostWith(2, table(holds(hold(1, 5, impl.LkX)))), 1, 5)
	edit := func(kind, node, a, b int, text string) impl.Request {
		return editing(1, impl.Edit{Kind: kind, Node: node, A: a, B: b, Text: text})
	}
	then := askHost(t, h,
		done(edit(impl.EdInsert, 8, 3, 0, ""), 6), done(edit(impl.EdText, 10, 0, 0, "new"), 6), done(edit(impl.EdAttr, 5, 1, 0, ""), 6), done(edit(impl.EdMove, 6, 8, 2, ""), 6), done(edit(impl.EdWrap, 8, 4, 0, ""), 7), done(edit(impl.EdLift, 11, 0, 0, ""), 6),
		done(edit(impl.EdSplit, 9, 2, 0, ""), 7), done(edit(impl.EdJoin, 9, 0, 0, ""), 6), done(edit(impl.EdDelete, 10, 0, 0, ""), 5), done(edit(impl.EdDelete, 7, 0, 0, ""), 1),
		denied(edit(impl.EdInsert, 5, 3, 1, ""), impl.ErrRange), denied(edit(impl.EdText, 2, 0, 0, "no"), impl.ErrNone), denied(edit(impl.EdDelete, 5, 0, 0, ""), impl.ErrRoot), denied(edit(impl.EdMove, 5, 5, 0, ""), impl.ErrRoot), denied(edit(impl.EdText, 999999, 0, 0, ""), impl.ErrNone),
		denied(editing(2, impl.Edit{Kind: impl.EdText, Node: 5}), impl.ErrWork), denied(editing(2, impl.Edit{Kind: impl.EdText, Node: 77}), impl.ErrWork), denied(editing(3, impl.Edit{Kind: impl.EdText, Node: 77}), impl.ErrLapsed),
	)
	if !impl.SameDoc(then.Doc, demoDoc()) || !impl.SameTable(then.Table, h.Table) || len(then.Events) > 0 {
		t.Error("an edit turns nothing but the copy:", then)
	}
	askHost(t, h, denied(edit(impl.EdMove, 7, 77, 0, ""), impl.ErrNone), denied(edit(impl.EdMove, 7, 9, 0, ""), impl.ErrOrder), denied(edit(impl.EdSplit, 9, 6, 0, ""), impl.ErrRange), denied(edit(impl.EdJoin, 7, 0, 0, ""), impl.ErrNone), denied(edit(impl.EdJoin, 6, 0, 0, ""), impl.ErrKind))
	askHost(t, anyHost(plainDoc(40), 1), denied(edit(impl.EdInsert, 30, 1, 0, ""), impl.ErrFull), denied(edit(impl.EdInsert, 1, 1, 0, ""), impl.ErrFull))
	askHost(t, anyHost(chainDoc(6), 1), denied(edit(impl.EdInsert, 6, 1, 0, ""), impl.ErrDeep), denied(edit(impl.EdWrap, 2, 1, 0, ""), impl.ErrDeep))
	last := turned(chainDoc(2), func(d *impl.Doc) { d.Next = 999999 })
	askHost(t, anyHost(last, 2), denied(edit(impl.EdInsert, 2, 1, 0, ""), impl.ErrFull))
}

// TestP14CheckIn: the document has the copy, and all else as it was; locks and waits below the node go as the chapter says.
func TestP14CheckIn(t *testing.T) {
	x := table(holds(hold(1, 1, impl.LkIX), hold(1, 5, impl.LkX), hold(1, 6, impl.LkS), hold(1, 7, impl.LkX), hold(1, 8, impl.LkIS), hold(1, 9, impl.LkX), hold(2, 4, impl.LkX)), hold(3, 9, impl.LkS), hold(4, 6, impl.LkX), hold(5, 8, impl.LkIS), hold(6, 4, impl.LkS))
	h := hostWith(6, x)
	// Nothing was turned: the locks below go, and nobody is told.
	then := askHost(t, working(h, 1, 7), done(checkingIn(1), 9), denied(checkingIn(1), impl.ErrWork), denied(checkingIn(3), impl.ErrWork), denied(checkingIn(7), impl.ErrLapsed))
	askSame(t, then.Table, table(append(slices.Clone(x.Holds[:4]), x.Holds[6]), x.Waits...))
	if !impl.SameDoc(then.Doc, demoDoc()) {
		t.Error(then.Doc)
	}
	then = askHost(t, working(h, 1, 5), done(checkingIn(1), 9))
	askSame(t, then.Table, table(append(slices.Clone(x.Holds[:2]), x.Holds[6]), x.Waits...))
	// The item goes with what is below it, and a new one comes: who waited for them is told, by the order of the waits.
	then = askHost(t, working(h, 1, 7), done(editing(1, impl.Edit{Kind: impl.EdInsert, Node: 7, A: 5}), 4), done(editing(1, impl.Edit{Kind: impl.EdDelete, Node: 8}), 2), done(checkingIn(1), 8, event(3, impl.ErrNone, 9), event(5, impl.ErrNone, 8)))
	askSame(t, then.Table, table(append(slices.Clone(x.Holds[:4]), x.Holds[6]), hold(4, 6, impl.LkX), hold(6, 4, impl.LkS)))
	want := turned(demoDoc(), func(d *impl.Doc) {
		d.Nodes, d.Next = append(d.Nodes[:7], impl.Node{Id: 10, Kind: 5}), 11
		d.Nodes[6].Kids = []int{10}
	})
	if !alike(then.Doc, want) || then.Sessions[0].At != 0 || !alike(then.Sessions[0].Copy, impl.Doc{}) {
		t.Error(then)
	}
	// Its own wait for a node that is gone goes, too.
	h = hostWith(2, table(holds(hold(1, 5, impl.LkX), hold(2, 2, impl.LkX)), hold(1, 9, impl.LkIS)))
	askHost(t, working(h, 1, 7), done(editing(1, impl.Edit{Kind: impl.EdDelete, Node: 9}), 2), done(checkingIn(1), 8, event(1, impl.ErrNone, 9)))
	// What waits for nodes that stay is granted as soon as the lock goes, wherever they stand then.
	h = hostWith(2, table(holds(hold(1, 5, impl.LkX)), hold(2, 9, impl.LkX)))
	then = askHost(t, working(h, 1, 5), done(editing(1, impl.Edit{Kind: impl.EdMove, Node: 9, A: 5, B: 1}), 5), done(checkingIn(1), 9), done(unlocking(1, 5), 0, event(2, impl.OK, 9)))
	if path, _ := impl.PathOf(then.Doc, 9); !alike(path, []int{1, 5, 9}) {
		t.Error(path)
	}
}

// TestP14GrantedBehindACheckIn: waits that stood behind nobody, for which there is room, and of which the node stays.
func TestP14GrantedBehindACheckIn(t *testing.T) {
	h := hostWith(4, table(holds(hold(1, 7, impl.LkX)), hold(2, 9, impl.LkS), hold(3, 4, impl.LkX), hold(4, 8, impl.LkX), hold(1, 6, impl.LkS)))
	then := askHost(t, working(h, 1, 7), done(editing(1, impl.Edit{Kind: impl.EdDelete, Node: 9}), 2), done(checkingIn(1), 8, event(2, impl.ErrNone, 9), event(3, impl.OK, 4), event(1, impl.OK, 6)))
	askSame(t, then.Table, table(holds(hold(1, 6, impl.LkS), hold(1, 7, impl.LkX), hold(3, 4, impl.LkX)), hold(4, 8, impl.LkX)))
	// The locks on nodes that are gone made no room but for what else waits.
	h = working(crowdedHost(), 1, 5)
	h.Table.Waits = append(h.Table.Waits[:2:2], hold(3, 9, impl.LkS))
	askHost(t, h, done(editing(1, impl.Edit{Kind: impl.EdDelete, Node: 7}), 2), done(checkingIn(1), 9, event(3, impl.ErrNone, 9), event(6, impl.OK, 4)))
}

// TestP14CheckInRefused by the schema, with the node, and by the document; the copy is there still.
func TestP14CheckInRefused(t *testing.T) {
	h := working(hostWith(2, table(holds(hold(1, 5, impl.LkX)))), 1, 5)
	refuse := func(h impl.Host, code, n int) impl.Host {
		t.Helper()
		return askHost(t, h, does{checkingIn(1), impl.Reply{Code: code, N: n}, nil})
	}
	edited := func(h impl.Host, list ...impl.Edit) impl.Host {
		for _, e := range list {
			h = askRequest(t, h, editing(1, e))
		}
		return h
	}
	h = refuse(edited(h, impl.Edit{Kind: impl.EdDelete, Node: 6}), impl.ErrContent, 5)
	h = refuse(edited(h, impl.Edit{Kind: impl.EdInsert, Node: 5, A: 3}, impl.Edit{Kind: impl.EdText, Node: 8, Text: "no"}), impl.ErrContent, 8)
	h = refuse(edited(h, impl.Edit{Kind: impl.EdText, Node: 8}, impl.Edit{Kind: impl.EdInsert, Node: 9, A: 3}), impl.ErrContent, 9)
	h = refuse(edited(h, impl.Edit{Kind: impl.EdLift, Node: 9}, impl.Edit{Kind: impl.EdInsert, Node: 8, A: 8}), impl.ErrContent, 8)
	askHost(t, edited(h, impl.Edit{Kind: impl.EdDelete, Node: 12}), done(checkingIn(1), 9))
	// The first node of InOrder is told, not the lowest one.
	h = turnedHost(working(hostWith(1, table(holds(hold(1, 5, impl.LkX)))), 1, 5), func(h *impl.Host) { h.Sessions[0].Copy.Nodes[1].Kids = []int{10} })
	h.Sessions[0].Copy.Nodes = append(h.Sessions[0].Copy.Nodes, impl.Node{Id: 10, Kind: 3})
	h.Sessions[0].Copy.Next = 11
	refuse(turnedHost(h, func(h *impl.Host) {
		h.Sessions[0].Copy.Nodes[0].Kids = []int{6, 7}
		h.Sessions[0].Copy.Nodes[2].Text = "no"
	}), impl.ErrContent, 6)
	// A kind of no rule: a Root that is no Leaf tells it, others are refused as kids.
	h = anyHost(plainDoc(3), 2)
	refuse(turnedHost(h, func(h *impl.Host) { h.Sessions[0].Copy.Nodes[0].Kind = 2 }), impl.ErrKind, 2)
	refuse(turnedHost(h, func(h *impl.Host) { h.Sessions[0].Copy.Nodes[0].Text = "no" }), impl.ErrContent, 2)
	// ErrRange: all nodes of the copy count; ErrFull; ErrDeep.
	for _, v := range []struct{ next, code int }{{999996, impl.OK}, {999997, impl.ErrRange}, {999999, impl.ErrRange}} {
		h := turnedHost(working(hostWith(2, table(holds(hold(1, 7, impl.LkX)))), 1, 7), func(h *impl.Host) { h.Doc.Next = v.next })
		if v.code == impl.OK {
			askHost(t, h, done(checkingIn(1), 9))
		} else {
			refuse(h, v.code, 0)
		}
	}
	refuse(edited(anyHost(plainDoc(40), 40), impl.Edit{Kind: impl.EdInsert, Node: 40, A: 1}), impl.ErrFull, 0)
	askHost(t, edited(anyHost(plainDoc(39), 39), impl.Edit{Kind: impl.EdInsert, Node: 39, A: 1}), done(checkingIn(1), 40))
	refuse(edited(anyHost(chainDoc(6), 5), impl.Edit{Kind: impl.EdInsert, Node: 6, A: 1}), impl.ErrDeep, 0)
	refuse(edited(anyHost(chainDoc(6), 5), impl.Edit{Kind: impl.EdWrap, Node: 6, A: 1}), impl.ErrDeep, 0)
	askHost(t, edited(anyHost(chainDoc(6), 5), impl.Edit{Kind: impl.EdInsert, Node: 5, A: 1}), done(checkingIn(1), 7))
	// The schema comes ahead of the room, and the range ahead of what is too many or too deep.
	refuse(turnedHost(edited(anyHost(chainDoc(6), 5), impl.Edit{Kind: impl.EdInsert, Node: 6, A: 2}), func(h *impl.Host) { h.Doc.Next = 999999 }), impl.ErrContent, 6)
	refuse(turnedHost(edited(anyHost(chainDoc(6), 5), impl.Edit{Kind: impl.EdInsert, Node: 6, A: 1}), func(h *impl.Host) { h.Doc.Next = 999999 }), impl.ErrRange, 0)
}

// TestP14CopyOfAnotherKind: no edit turns the kind of a copy's Root, but a host may be handed in with such a copy. Checked in
// it must not make the document one that the schema does not take (P12).
func TestP14CopyOfAnotherKind(t *testing.T) {
	h := working(hostWith(1, table(holds(hold(1, 5, impl.LkX)))), 1, 8)
	with := func(kind int) impl.Host {
		return turnedHost(h, func(h *impl.Host) {
			h.Sessions[0].Copy = impl.Doc{Root: 8, Next: 10, Nodes: []impl.Node{{Id: 8, Kind: kind}}}
		})
	}
	askHost(t, with(5), done(checkingIn(1), 8))
	askHost(t, with(3), does{checkingIn(1), impl.Reply{Code: impl.ErrContent, N: 7}, nil}, done(abandoning(1), 0))
	askHost(t, with(2), does{checkingIn(1), impl.Reply{Code: impl.ErrContent, N: 8}, nil})
	// The Root of the document may be of any kind.
	askHost(t, turnedHost(rootHost(), func(h *impl.Host) { h.Sessions[0].Copy = fanDoc(3) }), done(checkingIn(1), 4))
}

// TestP14Abandon: what was edited is lost, and is not there when the node is checked out anew.
func TestP14Abandon(t *testing.T) {
	h := hostWith(2, table(holds(hold(1, 5, impl.LkX), hold(1, 9, impl.LkS)), hold(2, 9, impl.LkS)))
	d := demoDoc()
	then := askHost(t, h, denied(abandoning(1), impl.ErrWork), denied(abandoning(2), impl.ErrWork), denied(abandoning(3), impl.ErrLapsed),
		shown(checkingOut(1, 7), subByTheRule(d, 7)), done(editing(1, impl.Edit{Kind: impl.EdDelete, Node: 8}), 1), denied(checkingOut(1, 7), impl.ErrWork), done(abandoning(1), 0), denied(abandoning(1), impl.ErrWork), denied(checkingIn(1), impl.ErrWork), denied(editing(1, impl.Edit{Kind: impl.EdDelete, Node: 8}), impl.ErrWork))
	if !impl.SameHost(then, h) {
		t.Error("what is abandoned turns nothing:", then)
	}
	then = askHost(t, then, shown(checkingOut(1, 7), subByTheRule(d, 7)), done(abandoning(1), 0), shown(checkingOut(1, 5), subByTheRule(d, 5)), done(checkingIn(1), 9))
	if !impl.SameDoc(then.Doc, d) {
		t.Error(then.Doc)
	}
	// Closed, lapsed and a victim's, a copy is lost as well.
	h = working(h, 1, 7)
	h.Sessions[0].Copy.Nodes[2].Text = "turned"
	for _, v := range []does{done(closing(1), 0, event(2, impl.OK, 9)), done(ticking(50), 2, event(1, impl.ErrLapsed, 7), event(2, impl.OK, 9), event(2, impl.ErrLapsed, 0))} {
		if then := askHost(t, h, v); !impl.SameDoc(then.Doc, d) {
			t.Error(then.Doc)
		}
	}
}

// TestP14TwoWhoWriteAtOnce: both have new nodes of the same Ids in their copies; in the document each gets its own.
func TestP14TwoWhoWriteAtOnce(t *testing.T) {
	h := working(working(hostWith(2, table(holds(hold(1, 3, impl.LkX), hold(2, 7, impl.LkX)))), 1, 3), 2, 7)
	insert := func(session, node, kind int) impl.Request {
		return editing(session, impl.Edit{Kind: impl.EdInsert, Node: node, A: kind, B: 1})
	}
	h = askHost(t, h, done(insert(1, 3, 3), 3), done(insert(2, 7, 5), 4), done(editing(1, impl.Edit{Kind: impl.EdText, Node: 10, Text: "mine"}), 3), denied(insert(2, 10, 3), impl.ErrRange), denied(insert(2, 11, 3), impl.ErrNone))
	h = askHost(t, h, done(checkingIn(2), 10), done(checkingIn(1), 11))
	want := turned(demoDoc(), func(d *impl.Doc) {
		d.Nodes[6].Kids, d.Nodes[2].Kids, d.Next = []int{8, 10}, []int{4, 11}, 12
		d.Nodes = append(d.Nodes, impl.Node{Id: 10, Kind: 5}, impl.Node{Id: 11, Kind: 3, Text: "mine"})
	})
	if !alike(h.Doc, want) {
		t.Error(h.Doc)
	}
}

// TestP14CheckInsOfAllSorts: thrown hosts, in each of which each copy is checked in: it stands in the document as it was
// edited, and all outside is as it was.
func TestP14CheckInsOfAllSorts(t *testing.T) {
	throw := &dice{199}
	var taken tally
	for range 4000 {
		h := thrownHost(throw, 1)
		for _, s := range h.Sessions {
			if s.At == 0 {
				continue
			}
			then := askRequest(t, h, checkingIn(s.Id))
			_, reply, _ := impl.AskHost(h, checkingIn(s.Id))
			taken.count(reply.Code == impl.OK)
			if reply.Code != impl.OK {
				if !impl.SameHost(then, h) {
					t.Fatalf("a check-in that is refused turns %s to %s", short(h), short(then))
				}
				continue
			}
			askSections(t, h, then, checkingIn(s.Id))
			if laid, code := impl.CopySub(then.Doc, s.At); code != impl.OK || !impl.SameShape(laid, s.Copy) {
				t.Fatalf("%v stands as %v", s.Copy, laid)
			}
			if left := askRequest(t, h, abandoning(s.Id)); !impl.SameDoc(left.Doc, h.Doc) || !impl.SameTable(left.Table, h.Table) {
				t.Fatalf("what is abandoned turns %s to %s", short(h), short(left))
			}
		}
	}
	if taken.yes < 300 || taken.no < 100 {
		t.Error("too few of one sort:", taken)
	}
}

// TestP12CircleOfACheckIn: a node is moved below another one for which somebody waits, and so closes a circle that no ask
// led to. It is broken as any other one is, and the host is right still.
func TestP12CircleOfACheckIn(t *testing.T) {
	h := hostWith(5, table(holds(hold(1, 5, impl.LkX), hold(2, 2, impl.LkS), hold(5, 4, impl.LkX))))
	h.Doc = impl.Doc{Root: 1, Next: 11, Nodes: []impl.Node{
		{Id: 1, Kind: 1, Kids: []int{2, 4, 5}}, {Id: 2, Kind: 3}, {Id: 4, Kind: 3}, {Id: 5, Kind: 2, Kids: []int{6, 7, 8}}, {Id: 6, Kind: 3},
		{Id: 7, Kind: 2, Kids: []int{9}}, {Id: 8, Kind: 2, Kids: []int{10}}, {Id: 9, Kind: 3}, {Id: 10, Kind: 3},
	}}
	h = working(working(h, 1, 5), 5, 4)
	h = askHost(t, h, denied(locking(5, 2, impl.LkX), impl.ErrWait), denied(locking(4, 1, impl.LkS), impl.ErrWait), denied(locking(3, 7, impl.LkX), impl.ErrWait), denied(locking(2, 8, impl.LkS), impl.ErrWait))
	h = askHost(t, h, done(editing(1, impl.Edit{Kind: impl.EdMove, Node: 8, A: 7, B: 1}), 6), done(checkingIn(1), 9, event(5, impl.ErrVictim, 0)))
	askSame(t, h.Table, table(holds(hold(1, 5, impl.LkX), hold(2, 2, impl.LkS)), hold(4, 1, impl.LkS), hold(3, 7, impl.LkX), hold(2, 8, impl.LkS)))
	if s, code := impl.SessionOf(h, 5); code != impl.OK || !alike(s, impl.Session{Id: 5, Until: 50}) {
		t.Error("the victim:", s, code)
	}
	askHost(t, h, done(unlocking(1, 5), 0, event(4, impl.OK, 1)), done(closing(4), 0, event(3, impl.OK, 7)), done(closing(3), 0, event(2, impl.OK, 8)))
}
