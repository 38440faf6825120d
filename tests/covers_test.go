package tests

import (
	"slices"
	"testing"

	"loop.example/g00701/impl"
)

// TestP9WhatIsCovered tells what a session may do with each node from 1 to 9.
func TestP9WhatIsCovered(t *testing.T) {
	for i, v := range []struct {
		list []impl.Hold
		want string
	}{
		{nil, "000000000"},
		{[]impl.Hold{hold(7, 5, impl.LkIS)}, "000010000"}, {[]impl.Hold{hold(7, 5, impl.LkIX)}, "000020000"}, {[]impl.Hold{hold(7, 5, impl.LkS)}, "000033333"},
		{[]impl.Hold{hold(7, 5, impl.LkSIX)}, "000043333"}, {[]impl.Hold{hold(7, 5, impl.LkX)}, "000055555"},
		{[]impl.Hold{hold(7, 1, impl.LkX)}, "555555555"}, {[]impl.Hold{hold(7, 1, impl.LkS)}, "333333333"}, {[]impl.Hold{hold(7, 9, impl.LkX)}, "000000005"}, {[]impl.Hold{hold(7, 3, impl.LkX)}, "005500000"},
		// By a lock on the node, and by one above it.
		{[]impl.Hold{hold(7, 5, impl.LkS), hold(7, 7, impl.LkIX)}, "000033433"}, {[]impl.Hold{hold(7, 5, impl.LkSIX), hold(7, 6, impl.LkIX)}, "000044333"}, {[]impl.Hold{hold(7, 5, impl.LkS), hold(7, 7, impl.LkIS)}, "000033333"},
		{[]impl.Hold{hold(7, 5, impl.LkS), hold(7, 7, impl.LkSIX)}, "000033433"}, {[]impl.Hold{hold(7, 5, impl.LkS), hold(7, 8, impl.LkX)}, "000033355"}, {[]impl.Hold{hold(7, 5, impl.LkX), hold(7, 8, impl.LkS)}, "000055555"},
		{[]impl.Hold{hold(7, 5, impl.LkIX), hold(7, 8, impl.LkS)}, "000020033"}, {[]impl.Hold{hold(7, 5, impl.LkIX), hold(7, 8, impl.LkIX)}, "000020020"}, {[]impl.Hold{hold(7, 1, impl.LkX), hold(7, 8, impl.LkIS)}, "555555555"},
		{[]impl.Hold{hold(7, 1, impl.LkS), hold(7, 5, impl.LkX), hold(7, 9, impl.LkIX)}, "333355555"}, {[]impl.Hold{hold(7, 1, impl.LkX), hold(7, 5, impl.LkS), hold(7, 9, impl.LkIX)}, "555555555"},
		{[]impl.Hold{hold(7, 1, impl.LkIS), hold(7, 5, impl.LkIX), hold(7, 7, impl.LkSIX), hold(7, 9, impl.LkIX)}, "100020434"},
		// The join of what it has by intentions is not its own lock.
		{[]impl.Hold{hold(7, 5, impl.LkS), hold(7, 9, impl.LkX)}, "000033335"},
		// Locks of other sessions are nothing to it.
		{[]impl.Hold{hold(6, 1, impl.LkX), hold(7, 4, impl.LkS), hold(8, 5, impl.LkX)}, "000300000"}, {[]impl.Hold{hold(6, 1, impl.LkS), hold(8, 1, impl.LkX)}, "000000000"},
	} {
		for node := 1; node <= 9; node++ {
			mode, code := impl.CoverOf(demoDoc(), v.list, 7, node)
			if want := int(v.want[node-1] - '0'); mode != want || code != impl.OK {
				t.Errorf("%d: CoverOf(%v) of node %d = %d, %d; want %d", i, v.list, node, mode, code, want)
			}
		}
	}
}

// TestP9EveryTwoLocksOnAPath covers a node by a lock on it and one above it, of every two modes.
func TestP9EveryTwoLocksOnAPath(t *testing.T) {
	d := chainDoc(impl.MaxDepth)
	for _, above := range modes() {
		for _, own := range modes() {
			var list []impl.Hold
			if above != impl.LkNone {
				list = append(list, hold(1, 1, above))
			}
			if own != impl.LkNone {
				list = append(list, hold(1, 6, own))
			}
			want := own
			switch above {
			case impl.LkX:
				want = impl.LkX
			case impl.LkS, impl.LkSIX:
				want, _ = impl.JoinModes(own, impl.LkS)
			}
			if got, code := impl.CoverOf(d, list, 1, 6); got != want || code != impl.OK {
				t.Errorf("CoverOf(%v) = %d, %d; want %d", list, got, code, want)
			}
		}
	}
}

// askTheoremOfCovers asks it of a peaceful list; it tells how many covers with X, and with S, there were beside another
// session.
func askTheoremOfCovers(t *testing.T, d impl.Doc, list []impl.Hold) (int, int) {
	t.Helper()
	written, read := 0, 0
	sessions := sessionsByTheRule(list)
	for _, n := range d.Nodes {
		for _, session := range sessions {
			cover, _ := impl.CoverOf(d, list, session, n.Id)
			for _, other := range sessions {
				if other == session || cover < impl.LkS {
					continue
				}
				if cover == impl.LkX {
					written++
					askNothingBelow(t, d, list, other, n.Id)
				} else {
					read++
					askNoneWrittenBelow(t, d, list, other, n.Id)
				}
			}
		}
	}
	return written, read
}

func askNothingBelow(t *testing.T, d impl.Doc, list []impl.Hold, other, node int) {
	t.Helper()
	for _, below := range orderByTheRule(d, node) {
		if mode, code := impl.ModeAt(d, list, other, below); mode != impl.LkNone || code != impl.OK {
			t.Fatalf("node %d of %v is covered with X in %v, and %d has %d on node %d", node, d, list, other, mode, below)
		}
	}
}

func askNoneWrittenBelow(t *testing.T, d impl.Doc, list []impl.Hold, other, node int) {
	t.Helper()
	for _, below := range orderByTheRule(d, node) {
		if cover, code := impl.CoverOf(d, list, other, below); cover == impl.LkX || code != impl.OK {
			t.Fatalf("node %d of %v is covered with S in %v, and %d covers node %d with X", node, d, list, other, below)
		}
	}
}

// TestP9TheTheoremOfCovers, over all peaceful lists of two sessions on small documents, and over thrown ones.
func TestP9TheTheoremOfCovers(t *testing.T) {
	written, read := 0, 0
	askOf := func(d impl.Doc, list []impl.Hold) {
		if peace, _ := impl.Peaceful(d, list); !peace {
			return
		}
		w, r := askTheoremOfCovers(t, d, list)
		written, read = written+w, read+r
	}
	for _, d := range []impl.Doc{chainDoc(2), chainDoc(3), fanDoc(2)} {
		for _, list := range allHolds(d) {
			askOf(d, list)
		}
	}
	throw := &dice{137}
	for range 1000 {
		d := thrownDoc(throw, 15)
		askOf(d, thrownPeace(throw, d, 15))
	}
	if written < 1000 || read < 1000 {
		t.Error("too few covers:", written, read)
	}
}

// TestP9WarBreaksTheTheorem: without peace it does not hold, so it is not asked of nothing.
func TestP9WarBreaksTheTheorem(t *testing.T) {
	for _, list := range [][]impl.Hold{
		{hold(1, 5, impl.LkX), hold(2, 9, impl.LkX)}, {hold(1, 5, impl.LkS), hold(2, 9, impl.LkX)}, {hold(1, 5, impl.LkX), hold(2, 5, impl.LkIS)}, {hold(1, 1, impl.LkSIX), hold(2, 7, impl.LkX)},
	} {
		broken := func(node int) bool {
			cover, _ := impl.CoverOf(demoDoc(), list, 1, node)
			has, _ := impl.ModeAt(demoDoc(), list, 2, node)
			other, _ := impl.CoverOf(demoDoc(), list, 2, node)
			return cover == impl.LkX && has != impl.LkNone || cover >= impl.LkS && other == impl.LkX
		}
		peace, code := impl.Peaceful(demoDoc(), list)
		if peace || code != impl.OK || !slices.ContainsFunc([]int{1, 2, 3, 4, 5, 6, 7, 8, 9}, broken) {
			t.Errorf("Peaceful(%v) = %v, %d", list, peace, code)
		}
	}
}
