package tests

import (
	"slices"
	"testing"

	"loop.example/g00701/impl"
)

// askConflicts holds ConflictsOf against the sessions that the test names, and against the words of the chapter.
func askConflicts(t *testing.T, list []impl.Hold, h impl.Hold, want ...int) {
	t.Helper()
	askLocks(t, demoDoc(), list, h)
	if got, code := impl.ConflictsOf(demoDoc(), list, h); code != impl.OK || !slices.Equal(got, want) {
		t.Errorf("ConflictsOf(%v, %v) = %v, %d; want %v", list, h, got, code, want)
	}
}

// TestP8WhatStandsAgainstALock: on the node itself, above it and below it, for each mode of each.
func TestP8WhatStandsAgainstALock(t *testing.T) {
	for _, a := range lockModes() {
		for _, b := range lockModes() {
			need := func(mode int) int { need, _ := impl.IntentOf(mode); return need }
			against := func(one, other int) []int {
				if fits, _ := impl.Compatible(one, other); fits {
					return nil
				}
				return []int{4}
			}
			askConflicts(t, []impl.Hold{hold(4, 7, a)}, hold(6, 7, b), against(a, b)...)
			askConflicts(t, []impl.Hold{hold(4, 5, a)}, hold(6, 7, b), against(a, need(b))...)
			askConflicts(t, []impl.Hold{hold(4, 1, a)}, hold(6, 9, b), against(a, need(b))...)
			askConflicts(t, []impl.Hold{hold(4, 8, a)}, hold(6, 7, b), against(need(a), b)...)
			askConflicts(t, []impl.Hold{hold(4, 9, a)}, hold(6, 1, b), against(need(a), b)...)
			askConflicts(t, []impl.Hold{hold(4, 6, a)}, hold(6, 7, b))
			askConflicts(t, []impl.Hold{hold(4, 4, a)}, hold(6, 9, b))
			// Its own lock stands against nobody, wherever it is.
			for node := 1; node <= 9; node++ {
				askConflicts(t, []impl.Hold{hold(6, node, a)}, hold(6, 7, b))
			}
		}
	}
}

func TestP8WhoStandsAgainstALock(t *testing.T) {
	list := []impl.Hold{hold(1, 9, impl.LkX), hold(3, 6, impl.LkS), hold(3, 7, impl.LkIS), hold(5, 2, impl.LkX), hold(700, 1, impl.LkIS)}
	for _, v := range []struct {
		h    impl.Hold
		want []int
	}{
		{hold(2, 1, impl.LkIS), nil}, {hold(2, 1, impl.LkIX), nil}, {hold(2, 1, impl.LkS), []int{1, 5}}, {hold(2, 1, impl.LkSIX), []int{1, 5}}, {hold(2, 1, impl.LkX), []int{1, 3, 5, 700}},
		{hold(2, 5, impl.LkS), []int{1}}, {hold(2, 5, impl.LkX), []int{1, 3}}, {hold(2, 6, impl.LkX), []int{3}}, {hold(2, 6, impl.LkIS), nil}, {hold(2, 6, impl.LkIX), []int{3}}, {hold(2, 8, impl.LkX), []int{1}},
		{hold(2, 3, impl.LkX), nil}, {hold(2, 4, impl.LkSIX), nil}, {hold(2, 9, impl.LkIS), []int{1}}, {hold(2, 2, impl.LkIS), []int{5}},
		{hold(5, 1, impl.LkS), []int{1}}, {hold(1, 1, impl.LkX), []int{3, 5, 700}}, {hold(3, 5, impl.LkX), []int{1}}, {hold(3, 6, impl.LkX), nil}, {hold(700, 1, impl.LkX), []int{1, 3, 5}}, {hold(999, 7, impl.LkX), []int{1, 3}},
	} {
		askConflicts(t, list, v.h, v.want...)
	}
	askConflicts(t, nil, hold(1, 1, impl.LkX))
	askConflicts(t, []impl.Hold{}, hold(999, 9, impl.LkX))
	askConflicts(t, fullHolds(30), hold(1, 9, impl.LkIX))
	askConflicts(t, fullHolds(30), hold(1, 9, impl.LkX), 10, 11, 12)
	askConflicts(t, fullHolds(30), hold(11, 1, impl.LkX), 10, 12, 13)
}

// TestP8WhatASessionHasCounts: what is asked is joined with what its session has on the path already.
func TestP8WhatASessionHasCounts(t *testing.T) {
	read, write := hold(1, 5, impl.LkS), hold(2, 1, impl.LkIX)
	askConflicts(t, []impl.Hold{read, write}, hold(1, 5, impl.LkIX))
	askConflicts(t, []impl.Hold{read, hold(2, 6, impl.LkS)}, hold(1, 5, impl.LkIX))
	askConflicts(t, []impl.Hold{read, hold(2, 5, impl.LkS)}, hold(1, 5, impl.LkIX), 2)
	askConflicts(t, []impl.Hold{read, hold(2, 5, impl.LkIX)}, hold(1, 5, impl.LkIS), 2)
	askConflicts(t, []impl.Hold{hold(1, 9, impl.LkX), hold(2, 5, impl.LkIX)}, hold(1, 5, impl.LkIS))
	askConflicts(t, []impl.Hold{hold(1, 5, impl.LkIX), hold(2, 5, impl.LkIX)}, hold(1, 5, impl.LkS), 2)
	askConflicts(t, []impl.Hold{hold(1, 9, impl.LkX), hold(2, 5, impl.LkIS)}, hold(1, 5, impl.LkS))
	askConflicts(t, []impl.Hold{hold(1, 1, impl.LkS), hold(2, 1, impl.LkS)}, hold(1, 9, impl.LkX), 2)
	askConflicts(t, []impl.Hold{hold(1, 1, impl.LkIS), hold(2, 1, impl.LkS)}, hold(1, 9, impl.LkS))
}

// TestP8ListsThatKeepThePeace, and such as do not.
func TestP8ListsThatKeepThePeace(t *testing.T) {
	for i, v := range []struct {
		list []impl.Hold
		want bool
	}{
		{nil, true}, {[]impl.Hold{}, true}, {[]impl.Hold{hold(1, 1, impl.LkX)}, true}, {fullHolds(30), true},
		{[]impl.Hold{hold(1, 1, impl.LkX), hold(1, 5, impl.LkX), hold(1, 9, impl.LkS)}, true},
		{[]impl.Hold{hold(1, 2, impl.LkX), hold(2, 3, impl.LkX), hold(3, 5, impl.LkX)}, true}, {[]impl.Hold{hold(1, 6, impl.LkX), hold(2, 9, impl.LkX)}, true},
		{[]impl.Hold{hold(1, 1, impl.LkS), hold(2, 1, impl.LkS), hold(3, 9, impl.LkS)}, true}, {[]impl.Hold{hold(1, 1, impl.LkSIX), hold(2, 9, impl.LkS)}, true},
		{[]impl.Hold{hold(1, 5, impl.LkIX), hold(2, 5, impl.LkIX), hold(3, 9, impl.LkX)}, true},
		// On one node; the middle ones of four are at war.
		{[]impl.Hold{hold(1, 5, impl.LkS), hold(2, 5, impl.LkIX)}, false}, {[]impl.Hold{hold(1, 4, impl.LkX), hold(2, 4, impl.LkIS)}, false}, {[]impl.Hold{hold(1, 9, impl.LkSIX), hold(2, 9, impl.LkSIX)}, false},
		{[]impl.Hold{hold(1, 2, impl.LkX), hold(2, 9, impl.LkX), hold(3, 9, impl.LkX), hold(4, 4, impl.LkX)}, false}, {[]impl.Hold{hold(1, 9, impl.LkX), hold(2, 2, impl.LkX), hold(3, 4, impl.LkX), hold(999, 9, impl.LkIS)}, false},
		// One of both has no lock of its own on the node.
		{[]impl.Hold{hold(1, 1, impl.LkX), hold(2, 9, impl.LkIS)}, false}, {[]impl.Hold{hold(1, 9, impl.LkIS), hold(2, 1, impl.LkX)}, false}, {[]impl.Hold{hold(1, 5, impl.LkS), hold(2, 9, impl.LkX)}, false}, {[]impl.Hold{hold(1, 9, impl.LkIX), hold(2, 7, impl.LkS)}, false},
		{[]impl.Hold{hold(1, 5, impl.LkSIX), hold(2, 7, impl.LkX)}, false}, {[]impl.Hold{hold(1, 7, impl.LkX), hold(1, 9, impl.LkIS), hold(2, 9, impl.LkS)}, false},
		// What one has by two locks together.
		{[]impl.Hold{hold(1, 5, impl.LkS), hold(1, 9, impl.LkX), hold(2, 5, impl.LkS)}, false}, {[]impl.Hold{hold(1, 5, impl.LkS), hold(1, 9, impl.LkS), hold(2, 5, impl.LkS)}, true},
	} {
		askLocks(t, demoDoc(), v.list, hold(1, 1, impl.LkIS))
		if got, code := impl.Peaceful(demoDoc(), v.list); got != v.want || code != impl.OK {
			t.Errorf("%d: Peaceful(%v) = %v, %d", i, v.list, got, code)
		}
	}
}

// TestP8IntentionsAloneKeepThePeace: nodes on which neither session has a lock of its own are never fought for.
func TestP8IntentionsAloneKeepThePeace(t *testing.T) {
	for _, a := range lockModes() {
		for _, b := range lockModes() {
			for _, nodes := range [][2]int{{2, 9}, {4, 2}, {6, 7}, {9, 6}, {4, 9}} {
				list := []impl.Hold{hold(1, nodes[0], a), hold(2, nodes[1], b)}
				if peace, code := impl.Peaceful(demoDoc(), list); !peace || code != impl.OK {
					t.Errorf("Peaceful(%v) = %v, %d", list, peace, code)
				}
			}
		}
	}
}

// askPeaceKept asks of a peaceful list that a lock, put, keeps the peace just if it stands against nobody.
func askPeaceKept(t *testing.T, d impl.Doc, list []impl.Hold, h impl.Hold) bool {
	t.Helper()
	against, code := impl.ConflictsOf(d, list, h)
	with, put := impl.PutHold(d, list, h)
	if code != impl.OK || put != impl.OK {
		t.Fatalf("ConflictsOf and PutHold(%v, %v, %v): codes %d, %d", d, list, h, code, put)
	}
	if peace, code := impl.Peaceful(d, with); peace != (len(against) == 0) || code != impl.OK {
		t.Fatalf("%v stands against %v in %v of %v; Peaceful of it with the lock: %v, %d", h, against, list, d, peace, code)
	}
	return len(against) == 0
}

// TestP8ALockAgainstNobodyKeepsThePeace, over all peaceful lists of two sessions on two nodes, and over thrown ones.
func TestP8ALockAgainstNobodyKeepsThePeace(t *testing.T) {
	var kept tally
	for _, list := range allHolds(chainDoc(2)) {
		if peace, _ := impl.Peaceful(chainDoc(2), list); !peace {
			continue
		}
		for session := 1; session <= 3; session++ {
			for node := 1; node <= 2; node++ {
				for _, mode := range lockModes() {
					kept.count(askPeaceKept(t, chainDoc(2), list, hold(session, node, mode)))
				}
			}
		}
	}
	throw := &dice{131}
	for range 1000 {
		d := thrownDoc(throw, 12)
		list := thrownPeace(throw, d, 10)
		for range 5 {
			kept.count(askPeaceKept(t, d, list, thrownHold(throw, d)))
		}
	}
	kept.askBoth(t)
}

// allHolds are all lists of locks of the sessions 1 and 2 on a document.
func allHolds(d impl.Doc) [][]impl.Hold {
	lists := [][]impl.Hold{nil}
	for session := 1; session <= 2; session++ {
		for _, n := range d.Nodes {
			for _, list := range lists {
				for _, mode := range lockModes() {
					lists = append(lists, append(slices.Clone(list), hold(session, n.Id, mode)))
				}
			}
		}
	}
	return lists
}

// TestP8AllSmallLists holds all calls against the words of the chapter, on all lists of two sessions on two nodes.
func TestP8AllSmallLists(t *testing.T) {
	d := turned(chainDoc(2), func(d *impl.Doc) { d.Root, d.Nodes[0].Kids, d.Nodes[1].Kids = 2, nil, []int{1} })
	lists := allHolds(d)
	if len(lists) != 6*6*6*6 {
		t.Fatal("lists:", len(lists))
	}
	for i, list := range lists {
		for node := 1; node <= 2; node++ {
			askLocks(t, d, list, hold(1+i%3, node, 1+i%5))
			askLocks(t, d, list, hold(1+(i+1)%2, node, 1+(i+3)%5))
		}
	}
}
