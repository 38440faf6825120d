package tests

import (
	"slices"
	"testing"

	"loop.example/g00701/impl"
)

func TestP8RightLists(t *testing.T) {
	for _, list := range rightHolds() {
		if !holdsByTheRule(demoDoc(), list) || !impl.HoldsOK(demoDoc(), list) {
			t.Errorf("HoldsOK(%v) is false", list)
		}
	}
	for _, list := range wrongHolds() {
		if holdsByTheRule(demoDoc(), list) || impl.HoldsOK(demoDoc(), list) {
			t.Errorf("HoldsOK(%.300v) is true", list)
		}
	}
	for _, d := range wrongDocs() {
		for _, list := range append(rightHolds(), wrongHolds()...) {
			if impl.HoldsOK(d, list) {
				t.Fatalf("HoldsOK(%.300v, %.300v) is true", d, list)
			}
		}
	}
}

// TestP8EdgesOfLists has each number of a lock at its bounds and beyond, and each number of locks.
func TestP8EdgesOfLists(t *testing.T) {
	for i, v := range []struct {
		list  []impl.Hold
		right bool
	}{
		{[]impl.Hold{hold(0, 1, 1)}, false}, {[]impl.Hold{hold(1, 1, 1)}, true}, {[]impl.Hold{hold(999, 1, 1)}, true}, {[]impl.Hold{hold(1000, 1, 1)}, false},
		{[]impl.Hold{hold(1, 1, -1)}, false}, {[]impl.Hold{hold(1, 1, 0)}, false}, {[]impl.Hold{hold(1, 1, 5)}, true}, {[]impl.Hold{hold(1, 1, 6)}, false},
		{[]impl.Hold{hold(1, 0, 1)}, false}, {[]impl.Hold{hold(1, 9, 1)}, true}, {[]impl.Hold{hold(1, 10, 1)}, false},
		{[]impl.Hold{hold(1, 2, 1), hold(1, 3, 1)}, true}, {[]impl.Hold{hold(1, 3, 1), hold(1, 2, 1)}, false}, {[]impl.Hold{hold(1, 2, 1), hold(1, 2, 1)}, false}, {[]impl.Hold{hold(1, 2, 1), hold(1, 2, 2)}, false},
		{[]impl.Hold{hold(1, 9, 1), hold(2, 1, 1)}, true}, {[]impl.Hold{hold(2, 1, 1), hold(1, 9, 1)}, false}, {[]impl.Hold{hold(1, 2, 1), hold(2, 2, 1)}, true}, {[]impl.Hold{hold(2, 2, 1), hold(1, 2, 1)}, false},
		{fullHolds(29), true}, {fullHolds(30), true}, {fullHolds(31), false}, {fullHolds(36), false}, {make([]impl.Hold, impl.MaxList), false}, {make([]impl.Hold, impl.MaxList+1), false},
		{nil, true}, {[]impl.Hold{}, true},
	} {
		if impl.HoldsOK(demoDoc(), v.list) != v.right {
			t.Errorf("%d: HoldsOK(%.300v) is %v", i, v.list, !v.right)
		}
	}
}

// TestP8WhatASessionHas tells what a session has on each node from 1 to 9: on it, above, below and beside.
func TestP8WhatASessionHas(t *testing.T) {
	for i, v := range []struct {
		list []impl.Hold
		want string
	}{
		{nil, "000000000"},
		{[]impl.Hold{hold(7, 7, impl.LkIS)}, "100010100"}, {[]impl.Hold{hold(7, 7, impl.LkIX)}, "200020200"}, {[]impl.Hold{hold(7, 7, impl.LkS)}, "100010300"},
		{[]impl.Hold{hold(7, 7, impl.LkSIX)}, "200020400"}, {[]impl.Hold{hold(7, 7, impl.LkX)}, "200020500"},
		{[]impl.Hold{hold(7, 1, impl.LkX)}, "500000000"}, {[]impl.Hold{hold(7, 9, impl.LkX)}, "200020225"}, {[]impl.Hold{hold(7, 2, impl.LkS)}, "130000000"},
		// A lock on the node, and locks on several nodes below.
		{[]impl.Hold{hold(7, 5, impl.LkS), hold(7, 6, impl.LkIS), hold(7, 9, impl.LkX)}, "200041225"},
		{[]impl.Hold{hold(7, 5, impl.LkS), hold(7, 6, impl.LkS), hold(7, 9, impl.LkS)}, "100033113"},
		{[]impl.Hold{hold(7, 1, impl.LkS), hold(7, 5, impl.LkIS), hold(7, 9, impl.LkIX)}, "400020222"},
		{[]impl.Hold{hold(7, 1, impl.LkX), hold(7, 4, impl.LkS), hold(7, 9, impl.LkX)}, "501320225"},
		{[]impl.Hold{hold(7, 4, impl.LkX), hold(7, 6, impl.LkS)}, "202513000"},
		{[]impl.Hold{hold(7, 4, impl.LkS), hold(7, 6, impl.LkX)}, "201325000"},
		// Locks of other sessions are nothing to it.
		{[]impl.Hold{hold(6, 1, impl.LkX), hold(7, 4, impl.LkS), hold(8, 9, impl.LkX)}, "101300000"},
		{[]impl.Hold{hold(6, 9, impl.LkS), hold(8, 1, impl.LkX)}, "000000000"},
	} {
		for node := 1; node <= 9; node++ {
			mode, code := impl.ModeAt(demoDoc(), v.list, 7, node)
			if want := int(v.want[node-1] - '0'); mode != want || code != impl.OK {
				t.Errorf("%d: ModeAt(%v) of node %d = %d, %d; want %d", i, v.list, node, mode, code, want)
			}
		}
	}
}

func TestP8DeepDocuments(t *testing.T) {
	d := chainDoc(impl.MaxDepth)
	for _, mode := range lockModes() {
		for node := 1; node <= impl.MaxDepth; node++ {
			list := []impl.Hold{hold(1, node, mode)}
			for other := 1; other <= impl.MaxDepth; other++ {
				askLocks(t, d, list, hold(1, other, impl.LkIX))
				askLocks(t, d, list, hold(2, other, impl.LkS))
				has, _ := impl.ModeAt(d, list, 1, other)
				if want := needByTheRule(d, list[0], other); has != want || (other > node) != (want == impl.LkNone) {
					t.Errorf("ModeAt(%v) of node %d = %d", list, other, has)
				}
			}
		}
	}
}

// TestP8IntentionsAbove: who has a lock on a node has its intention on all nodes above.
func TestP8IntentionsAbove(t *testing.T) {
	throw := &dice{107}
	for range 2000 {
		d := thrownDoc(throw, 15)
		list := thrownHolds(throw, d, 12)
		for _, h := range list {
			intent, _ := impl.IntentOf(h.Mode)
			path, _ := impl.PathOf(d, h.Node)
			for _, node := range path {
				needs := intent
				if node == h.Node {
					needs = h.Mode
				}
				has, _ := impl.ModeAt(d, list, h.Session, node)
				if join, code := impl.JoinModes(has, needs); join != has || code != impl.OK {
					t.Fatalf("%v of %v has %d on node %d of %v", h, list, has, node, d)
				}
			}
		}
	}
}

// TestP8LocksPut puts locks of each mode ahead of others, between them and behind them.
func TestP8LocksPut(t *testing.T) {
	list := []impl.Hold{hold(2, 3, impl.LkIS), hold(2, 6, impl.LkS), hold(4, 1, impl.LkIX)}
	for _, mode := range lockModes() {
		for _, v := range []struct{ session, node, place int }{{1, 9, 0}, {2, 2, 0}, {2, 1, 0}, {2, 4, 1}, {2, 7, 2}, {3, 1, 2}, {3, 9, 2}, {4, 2, 3}, {999, 1, 3}} {
			h := hold(v.session, v.node, mode)
			want := slices.Insert(slices.Clone(list), v.place, h)
			if got, code := impl.PutHold(demoDoc(), list, h); code != impl.OK || !alike(got, want) {
				t.Errorf("PutHold(%v, %v) = %v, %d", list, h, got, code)
			}
		}
		h := hold(999, 9, mode)
		for _, none := range [][]impl.Hold{nil, {}} {
			if got, code := impl.PutHold(demoDoc(), none, h); code != impl.OK || !alike(got, []impl.Hold{h}) {
				t.Errorf("PutHold(%v, %v) = %v, %d", none, h, got, code)
			}
		}
	}
}

// TestP8LocksJoined puts locks where the session has one, each mode on each, at each place of the list.
func TestP8LocksJoined(t *testing.T) {
	for place := range 3 {
		for _, a := range lockModes() {
			for _, b := range lockModes() {
				list := []impl.Hold{hold(2, 3, impl.LkIS), hold(2, 6, impl.LkS), hold(4, 3, impl.LkIX)}
				list[place].Mode = a
				h := list[place]
				h.Mode = b
				want := slices.Clone(list)
				want[place].Mode, _ = impl.JoinModes(a, b)
				if got, code := impl.PutHold(demoDoc(), list, h); code != impl.OK || !alike(got, want) {
					t.Errorf("PutHold(%v, %v) = %v, %d", list, h, got, code)
				}
			}
		}
	}
}

func TestP8LocksDropped(t *testing.T) {
	for place := range 3 {
		for _, mode := range lockModes() {
			list := []impl.Hold{hold(2, 3, impl.LkIS), hold(2, 6, impl.LkS), hold(4, 3, impl.LkIX)}
			list[place].Mode = mode
			want := slices.Delete(slices.Clone(list), place, place+1)
			if got, code := impl.DropHold(demoDoc(), list, list[place].Session, list[place].Node); code != impl.OK || !alike(got, want) {
				t.Errorf("DropHold(%v) at place %d = %v, %d", list, place, got, code)
			}
			one := list[place : place+1]
			if got, code := impl.DropHold(demoDoc(), one, one[0].Session, one[0].Node); code != impl.OK || len(got) > 0 {
				t.Errorf("DropHold(%v) = %v, %d", one, got, code)
			}
		}
	}
	list := []impl.Hold{hold(2, 3, impl.LkX), hold(2, 7, impl.LkX), hold(4, 3, impl.LkIX)}
	// No lock of the session, none there, and what it has above and below a lock is none.
	for _, v := range [][2]int{{1, 3}, {3, 3}, {999, 3}, {2, 1}, {2, 4}, {2, 5}, {2, 6}, {2, 9}, {4, 1}, {4, 7}} {
		for _, holds := range [][]impl.Hold{list, nil, {}} {
			if got, code := impl.DropHold(demoDoc(), holds, v[0], v[1]); code != impl.ErrHeld || len(got) > 0 {
				t.Errorf("DropHold(%v, %v) = %v, %d", holds, v, got, code)
			}
		}
	}
}

// TestP8PutAndDropped: what is put is dropped again.
func TestP8PutAndDropped(t *testing.T) {
	throw := &dice{109}
	for range 2000 {
		d := thrownDoc(throw, 20)
		list, h := thrownHolds(throw, d, 20), thrownHold(throw, d)
		bare, code := impl.DropHold(d, list, h.Session, h.Node)
		if code == impl.ErrHeld {
			bare = list
		}
		with, code := impl.PutHold(d, bare, h)
		if code != impl.OK || !slices.Contains(with, h) || !impl.HoldsOK(d, with) {
			t.Fatalf("PutHold(%v, %v, %v) = %v, %d", d, bare, h, with, code)
		}
		if again, code := impl.DropHold(d, with, h.Session, h.Node); code != impl.OK || !alike(again, bare) {
			t.Fatalf("DropHold(%v, %v, %v) = %v, %d", d, with, h, again, code)
		}
	}
}

func TestP8FullLists(t *testing.T) {
	for _, v := range []struct {
		list []impl.Hold
		h    impl.Hold
		code int
	}{
		{fullHolds(29), hold(13, 9, impl.LkX), impl.OK}, {fullHolds(30), hold(13, 9, impl.LkX), impl.ErrFull}, {fullHolds(30), hold(1, 1, impl.LkIS), impl.ErrFull}, {fullHolds(30), hold(999, 9, impl.LkIS), impl.ErrFull},
		{fullHolds(30), hold(10, 1, impl.LkX), impl.OK}, {fullHolds(30), hold(11, 5, impl.LkS), impl.OK}, {fullHolds(30), hold(13, 3, impl.LkIX), impl.OK}, {fullHolds(30), hold(13, 3, impl.LkIS), impl.OK}, {fullHolds(30), hold(13, 4, impl.LkIS), impl.ErrFull},
		{fullHolds(31), hold(10, 1, impl.LkX), impl.ErrBad}, {fullHolds(30), hold(13, 9, 0), impl.ErrMode}, {fullHolds(30), hold(13, 10, 1), impl.ErrNone}, {fullHolds(30), hold(0, 9, 1), impl.ErrRange},
	} {
		askLocks(t, demoDoc(), v.list, v.h)
		if got, code := impl.PutHold(demoDoc(), v.list, v.h); code != v.code || code == impl.OK && (len(got) != 30 || !impl.HoldsOK(demoDoc(), got)) {
			t.Errorf("PutHold of %d locks, %v = %v, %d; want %d", len(v.list), v.h, got, code, v.code)
		}
	}
	for _, h := range fullHolds(30) {
		if got, code := impl.DropHold(demoDoc(), fullHolds(30), h.Session, h.Node); code != impl.OK || len(got) != 29 || slices.Contains(got, h) {
			t.Errorf("DropHold(%v) = %v, %d", h, got, code)
		}
	}
}

func TestP8ThrownLocks(t *testing.T) {
	throw := &dice{113}
	var held, fought tally
	for range 8000 {
		d := thrownDoc(throw, 12)
		list, h := thrownHolds(throw, d, 8), thrownHold(throw, d)
		askLocks(t, d, list, h)
		_, code := impl.DropHold(d, list, h.Session, h.Node)
		held.count(code == impl.OK)
		against, _ := impl.ConflictsOf(d, list, h)
		fought.count(len(against) > 0)
	}
	for range 40 {
		d := thrownDoc(throw, 40)
		list, h := thrownHolds(throw, d, 30), thrownHold(throw, d)
		askLocks(t, d, list, h)
	}
	held.askBoth(t)
	fought.askBoth(t)
}

// TestP8DocumentsOfAllSorts: Ids with gaps, a Root that is not the least one, one node, as many as there may be.
func TestP8DocumentsOfAllSorts(t *testing.T) {
	throw := &dice{127}
	for _, d := range rightDocs() {
		for range 4 {
			list := thrownHolds(throw, d, 10)
			askLocks(t, d, list, thrownHold(throw, d))
			askLocks(t, d, list, hold(2, d.Root, 1+throw.below(5)))
			askLocks(t, d, nil, hold(999, d.Root, impl.LkX))
		}
	}
}
