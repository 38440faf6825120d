package tests

import (
	"math"
	"slices"
	"testing"

	"loop.example/g00701/impl"
)

// lockAsks are calls of chapter 8 with documents, lists and holds that are right and with such as are not.
func lockAsks() []ask {
	var list []ask
	add := func(name string, f any, args ...any) { list = append(list, ask{name, f, args}) }
	addHold := func(d impl.Doc, holds []impl.Hold, h impl.Hold) {
		add("ModeAt", impl.ModeAt, d, holds, h.Session, h.Node)
		add("PutHold", impl.PutHold, d, holds, h)
		add("DropHold", impl.DropHold, d, holds, h.Session, h.Node)
		add("ConflictsOf", impl.ConflictsOf, d, holds, h)
		add("CoverOf", impl.CoverOf, d, holds, h.Session, h.Node)
	}
	for _, a := range append(modes(), math.MinInt, -1, 6, math.MaxInt) {
		add("IntentOf", impl.IntentOf, a)
		for _, b := range append(modes(), math.MinInt, -1, 6, math.MaxInt) {
			add("Compatible", impl.Compatible, a, b)
			add("JoinModes", impl.JoinModes, a, b)
		}
	}
	strange := strangeHolds()
	lists := append(rightHolds(), wrongHolds()...)
	for i, holds := range lists {
		add("HoldsOK", impl.HoldsOK, demoDoc(), holds)
		add("Peaceful", impl.Peaceful, demoDoc(), holds)
		addHold(demoDoc(), holds, strange[i*5%len(strange)])
		for _, h := range []impl.Hold{hold(1, 1, impl.LkIS), hold(1, 7, impl.LkX), hold(2, 3, impl.LkX), hold(3, 1, impl.LkS), hold(10, 1, impl.LkIS)} {
			addHold(demoDoc(), holds, h)
		}
	}
	for _, h := range strange {
		addHold(demoDoc(), rightHolds()[6], h)
	}
	throw := &dice{139}
	for i, d := range append(rightDocs(), wrongDocs()...) {
		add("HoldsOK", impl.HoldsOK, d, lists[i%len(lists)])
		add("Peaceful", impl.Peaceful, d, lists[i%len(lists)])
		addHold(d, lists[i%len(lists)], hold(1, 1, impl.LkX))
		addHold(d, []impl.Hold{}, hold(1, d.Root, impl.LkX))
		if rightByTheRule(d) {
			holds := thrownHolds(throw, d, 30)
			add("Peaceful", impl.Peaceful, d, holds)
			addHold(d, holds, thrownHold(throw, d))
			for _, h := range holds[:min(len(holds), 3)] {
				addHold(d, holds, h)
			}
		}
	}
	return list
}

func TestP1RulesOfLocks(t *testing.T) {
	for _, a := range lockAsks() {
		askRules(t, a)
	}
}

func TestP1LocksDoNotHangOnWhatWasCalledAhead(t *testing.T) {
	askOrders(t, lockAsks())
}

// TestP1AListAsItWasIsNewMemory: rule 3 holds where a lock that is put turns nothing.
func TestP1AListAsItWasIsNewMemory(t *testing.T) {
	given := fullHolds(30)
	for i, h := range given {
		got, code := impl.PutHold(demoDoc(), given, h)
		if code != impl.OK || !alike(got, given) {
			t.Fatalf("PutHold(%v) = %v, %d", h, got, code)
		}
		got[i].Mode = impl.LkX
		_ = append(got, hold(999, 9, impl.LkX))
		if !alike(given, fullHolds(30)) {
			t.Fatalf("PutHold(%v) answers the memory of its argument", h)
		}
	}
	// There is room behind the end of what is given, and something in it.
	room := append(fullHolds(20), hold(999, 1, impl.LkX), hold(999, 2, impl.LkX))
	for _, h := range []impl.Hold{hold(1, 1, impl.LkX), hold(11, 5, impl.LkX), hold(999, 9, impl.LkX)} {
		put, _ := impl.PutHold(demoDoc(), room[:20], h)
		left, _ := impl.DropHold(demoDoc(), room[:20], 10, 5)
		put[0], left[0] = impl.Hold{}, impl.Hold{}
		if !alike(room, append(fullHolds(20), hold(999, 1, impl.LkX), hold(999, 2, impl.LkX))) {
			t.Fatalf("%v was written behind the end of what is given: %v", h, room)
		}
	}
}

// TestP8OrderOfCodes has several faults in one call: the list's length, document and list, session, node, mode, room.
func TestP8OrderOfCodes(t *testing.T) {
	right, wrong, long := fullHolds(30), fullHolds(31), make([]impl.Hold, impl.MaxList+1)
	none := impl.Doc{}
	for i, v := range []struct {
		d    impl.Doc
		list []impl.Hold
		h    impl.Hold
		// The codes of calls on a session and a node, of DropHold, of calls on a hold, and of PutHold.
		at, drop, of, put int
	}{
		{none, long, hold(0, 77, 0), impl.ErrLong, impl.ErrLong, impl.ErrLong, impl.ErrLong},
		{demoDoc(), long, hold(1, 1, 1), impl.ErrLong, impl.ErrLong, impl.ErrLong, impl.ErrLong},
		{demoDoc(), slices.Repeat(right, 200)[:impl.MaxList+1], hold(10, 1, 1), impl.ErrLong, impl.ErrLong, impl.ErrLong, impl.ErrLong},
		{demoDoc(), long[:impl.MaxList], hold(1, 1, 1), impl.ErrBad, impl.ErrBad, impl.ErrBad, impl.ErrBad},
		{none, wrong, hold(0, 77, 0), impl.ErrBad, impl.ErrBad, impl.ErrBad, impl.ErrBad},
		{none, nil, hold(0, 77, 0), impl.ErrBad, impl.ErrBad, impl.ErrBad, impl.ErrBad},
		{chainDoc(7), nil, hold(1, 1, 1), impl.ErrBad, impl.ErrBad, impl.ErrBad, impl.ErrBad},
		{demoDoc(), wrong, hold(0, 77, 0), impl.ErrBad, impl.ErrBad, impl.ErrBad, impl.ErrBad},
		{demoDoc(), wrong, hold(10, 1, 1), impl.ErrBad, impl.ErrBad, impl.ErrBad, impl.ErrBad},
		{demoDoc(), right, hold(0, 77, 0), impl.ErrRange, impl.ErrRange, impl.ErrRange, impl.ErrRange},
		{demoDoc(), right, hold(1000, 1, 6), impl.ErrRange, impl.ErrRange, impl.ErrRange, impl.ErrRange},
		{demoDoc(), right, hold(1, 77, 0), impl.ErrNone, impl.ErrNone, impl.ErrNone, impl.ErrNone},
		{demoDoc(), right, hold(999, 0, -1), impl.ErrNone, impl.ErrNone, impl.ErrNone, impl.ErrNone},
		{demoDoc(), right, hold(1, 1, 0), impl.OK, impl.ErrHeld, impl.ErrMode, impl.ErrMode},
		{demoDoc(), right, hold(10, 1, 0), impl.OK, impl.OK, impl.ErrMode, impl.ErrMode},
		{demoDoc(), right, hold(10, 1, 6), impl.OK, impl.OK, impl.ErrMode, impl.ErrMode},
		{demoDoc(), right, hold(999, 9, 5), impl.OK, impl.ErrHeld, impl.OK, impl.ErrFull},
		{demoDoc(), right, hold(10, 1, 5), impl.OK, impl.OK, impl.OK, impl.OK},
		{demoDoc(), nil, hold(999, 9, 5), impl.OK, impl.ErrHeld, impl.OK, impl.OK},
	} {
		askLocks(t, v.d, v.list, v.h)
		_, mode := impl.ModeAt(v.d, v.list, v.h.Session, v.h.Node)
		_, cover := impl.CoverOf(v.d, v.list, v.h.Session, v.h.Node)
		_, drop := impl.DropHold(v.d, v.list, v.h.Session, v.h.Node)
		_, of := impl.ConflictsOf(v.d, v.list, v.h)
		_, put := impl.PutHold(v.d, v.list, v.h)
		if got, want := []int{mode, cover, drop, of, put}, []int{v.at, v.at, v.drop, v.of, v.put}; !slices.Equal(got, want) {
			t.Errorf("%d: codes of ModeAt, CoverOf, DropHold, ConflictsOf and PutHold: %v; want %v", i, got, want)
		}
	}
}

// TestP8WrongNumbers has numbers out of their bounds everywhere, in right lists and in wrong ones.
func TestP8WrongNumbers(t *testing.T) {
	strange := strangeHolds()
	for _, h := range strange {
		for _, list := range [][]impl.Hold{nil, rightHolds()[6], rightHolds()[8], fullHolds(30), wrongHolds()[0]} {
			askLocks(t, demoDoc(), list, h)
		}
		askLocks(t, impl.Doc{}, nil, h)
		askLocks(t, demoDoc(), []impl.Hold{h}, hold(1, 1, impl.LkIS))
	}
	for i, list := range wrongHolds() {
		askLocks(t, demoDoc(), list, strange[i*7%len(strange)])
		askLocks(t, demoDoc(), list, hold(2, 3, impl.LkIS))
	}
	for i, d := range wrongDocs() {
		askLocks(t, d, nil, strange[i*7%len(strange)])
		askLocks(t, d, fullHolds(3), hold(1, 1, impl.LkX))
		askLocks(t, d, wrongHolds()[i%len(wrongHolds())], hold(10, 1, impl.LkX))
	}
}
