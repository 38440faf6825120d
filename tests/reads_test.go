package tests

import (
	"testing"

	"loop.example/g00701/impl"
)

// TestP16EveryMode: one lock of each mode, on each node; each node is read that it covers with S, SIX or X, and no other one.
func TestP16EveryMode(t *testing.T) {
	d := demoDoc()
	reads := map[int]bool{impl.LkS: true, impl.LkSIX: true, impl.LkX: true}
	for _, mode := range lockModes() {
		for node := 1; node <= 9; node++ {
			h := hostWith(2, table(holds(hold(1, node, mode))))
			for read := 1; read <= 9; read++ {
				below := node == read
				for _, above := range pathByTheRule(d, read) {
					below = below || above == node
				}
				v := denied(reading(1, read), impl.ErrMode)
				if below && reads[mode] {
					v = shown(reading(1, read), subByTheRule(d, read))
				}
				if then := askHost(t, h, v, denied(reading(2, read), impl.ErrMode)); !impl.SameHost(then, h) {
					t.Error("who reads turns nothing:", then)
				}
			}
		}
	}
}

// TestP16ByTwoLocks: what a session covers by one lock and by another one is joined; intentions alone do not do.
func TestP16ByTwoLocks(t *testing.T) {
	d := demoDoc()
	for _, v := range []struct {
		locks []impl.Hold
		node  int
		reads bool
	}{
		{holds(hold(1, 5, impl.LkS), hold(1, 7, impl.LkIX)), 7, true}, {holds(hold(1, 5, impl.LkS), hold(1, 7, impl.LkIS)), 8, true}, {holds(hold(1, 5, impl.LkIX), hold(1, 7, impl.LkS)), 7, true},
		{holds(hold(1, 5, impl.LkIX), hold(1, 7, impl.LkS)), 5, false}, {holds(hold(1, 5, impl.LkIX), hold(1, 7, impl.LkX)), 6, false}, {holds(hold(1, 5, impl.LkIX), hold(1, 9, impl.LkX)), 8, false}, {holds(hold(1, 1, impl.LkIS), hold(1, 5, impl.LkIS)), 9, false},
		{holds(hold(1, 1, impl.LkSIX), hold(1, 5, impl.LkIX)), 9, true}, {holds(hold(1, 1, impl.LkIX), hold(1, 2, impl.LkIX)), 2, false}, {nil, 1, false},
		// By what another one has nobody reads.
		{holds(hold(2, 5, impl.LkS)), 5, false}, {holds(hold(1, 9, impl.LkS), hold(2, 5, impl.LkS)), 8, false},
	} {
		want := denied(reading(1, v.node), impl.ErrMode)
		if v.reads {
			want = shown(reading(1, v.node), subByTheRule(d, v.node))
		}
		askHost(t, hostWith(2, table(v.locks)), want)
	}
}

// TestP16Refused: by a session that is not there, of a node that is not there, and without a lock, in this order.
func TestP16Refused(t *testing.T) {
	h := hostWith(2, table(holds(hold(1, 5, impl.LkX)), hold(2, 5, impl.LkS)))
	askHost(t, h, denied(reading(3, 77), impl.ErrLapsed), denied(reading(3, 5), impl.ErrLapsed), denied(reading(1, 77), impl.ErrNone), denied(reading(2, 10), impl.ErrNone), denied(reading(2, 5), impl.ErrMode), denied(reading(1, 1), impl.ErrMode), done(unlocking(1, 5), 0, event(2, impl.OK, 5)), denied(reading(1, 5), impl.ErrMode), shown(reading(2, 5), subByTheRule(demoDoc(), 5)))
}

// TestP16AsItStands: in the document, whatever the copy of who reads has; as soon as it is checked in, it is read.
func TestP16AsItStands(t *testing.T) {
	h := working(hostWith(1, table(holds(hold(1, 5, impl.LkX)))), 1, 7)
	d := demoDoc()
	h = askHost(t, h, done(editing(1, impl.Edit{Kind: impl.EdText, Node: 9, Text: "new"}), 3), shown(reading(1, 7), subByTheRule(d, 7)), shown(reading(1, 9), subByTheRule(d, 9)), done(checkingIn(1), 9))
	d.Nodes[8].Text = "new"
	askHost(t, h, shown(reading(1, 9), subByTheRule(d, 9)), shown(reading(1, 7), subByTheRule(d, 7)), shown(reading(1, 5), subByTheRule(d, 5)), denied(reading(1, 1), impl.ErrMode))
}

func TestP16ReadsOfAllSorts(t *testing.T) {
	throw := &dice{211}
	var read tally
	for range 3000 {
		h := thrownHost(throw, 1)
		for _, s := range h.Sessions {
			node := h.Doc.Nodes[throw.below(len(h.Doc.Nodes))].Id
			cover, _ := impl.CoverOf(h.Doc, h.Table.Holds, s.Id, node)
			may := cover == impl.LkS || cover == impl.LkSIX || cover == impl.LkX
			_, reply, code := impl.AskHost(h, reading(s.Id, node))
			sub, _ := impl.CopySub(h.Doc, node)
			if code != impl.OK || may && !alike(reply, impl.Reply{Doc: sub}) || !may && !alike(reply, impl.Reply{Code: impl.ErrMode}) {
				t.Fatalf("AskHost(%s, %v): %v, %d", short(h), reading(s.Id, node), reply, code)
			}
			read.count(may)
		}
	}
	read.askBoth(t)
}
