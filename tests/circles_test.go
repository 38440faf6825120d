package tests

import (
	"slices"
	"testing"

	"loop.example/g00701/impl"
)

// askCircles holds the circle of each of the sessions from 1 to 6 against the one that the test names (the sessions in
// it, each of which has it as its own).
func askCircles(t *testing.T, x impl.Table, circles ...[]int) {
	t.Helper()
	for session := 1; session <= 6; session++ {
		var want []int
		for _, circle := range circles {
			if slices.Contains(circle, session) {
				want = circle
			}
		}
		askTable(t, demoDoc(), x, hold(session, 1, impl.LkX))
		if got, code := impl.CircleOf(demoDoc(), x, session); code != impl.OK || !alike(got, want) {
			t.Errorf("CircleOf(%v, %d) = %v, %d; want %v", x, session, got, code, want)
		}
	}
}

func TestP11NoCircles(t *testing.T) {
	askCircles(t, impl.Table{})
	askCircles(t, table(fullHolds(30)))
	askCircles(t, table(holds(hold(1, 5, impl.LkX)), hold(2, 5, impl.LkX), hold(3, 5, impl.LkX), hold(4, 1, impl.LkS)))
	// One who waits alone, also where another one has the same as it waits for, and one who waits for what it has itself.
	askCircles(t, table(holds(hold(1, 5, impl.LkS), hold(2, 5, impl.LkS)), hold(1, 5, impl.LkX)))
	askCircles(t, table(holds(hold(1, 5, impl.LkX)), hold(1, 5, impl.LkX)))
	// War between locks is no circle of waits.
	askCircles(t, table(holds(hold(1, 1, impl.LkX), hold(2, 1, impl.LkX))))
	askCircles(t, table(holds(hold(1, 1, impl.LkX), hold(2, 1, impl.LkX)), hold(2, 9, impl.LkX), hold(3, 9, impl.LkX)))
	// A long row of waits that ends.
	askCircles(t, table(holds(hold(1, 2, impl.LkX), hold(2, 4, impl.LkX), hold(3, 6, impl.LkX), hold(4, 9, impl.LkX)), hold(4, 6, impl.LkS), hold(3, 4, impl.LkS), hold(2, 2, impl.LkS)))
}

// TestP11Circles has circles of two, three and more in tables that no asks led to, with sessions that lead to them, and
// such as they lead to.
func TestP11Circles(t *testing.T) {
	two := holds(hold(1, 4, impl.LkX), hold(2, 6, impl.LkX))
	askCircles(t, table(two, hold(1, 6, impl.LkS), hold(2, 4, impl.LkS)), []int{1, 2})
	askCircles(t, table(two, hold(2, 4, impl.LkS), hold(1, 6, impl.LkS), hold(3, 4, impl.LkS)), []int{1, 2})
	askCircles(t, table(two, hold(2, 4, impl.LkS), hold(1, 6, impl.LkS), hold(3, 2, impl.LkS), hold(4, 3, impl.LkX), hold(5, 4, impl.LkS)), []int{1, 2})
	// It leads to 3, who waits for nothing, and to 4, who waits for 3.
	more := append(slices.Clone(two), hold(3, 9, impl.LkX), hold(4, 6, impl.LkIS))
	askCircles(t, table(more, hold(4, 8, impl.LkS), hold(1, 5, impl.LkS), hold(2, 4, impl.LkS)), []int{1, 2})
	three := holds(hold(1, 2, impl.LkX), hold(2, 4, impl.LkX), hold(3, 6, impl.LkX))
	askCircles(t, table(three, hold(1, 4, impl.LkS), hold(2, 6, impl.LkS), hold(3, 2, impl.LkS)), []int{1, 2, 3})
	askCircles(t, table(three, hold(3, 2, impl.LkS), hold(1, 6, impl.LkS), hold(2, 4, impl.LkS)), []int{1, 3})
	askCircles(t, table(three, hold(3, 4, impl.LkS), hold(1, 6, impl.LkS), hold(2, 2, impl.LkS), hold(6, 2, impl.LkS)), []int{1, 2, 3})
	// Two circles apart, and two of which one leads to the other.
	four := append(slices.Clone(three), hold(4, 9, impl.LkX))
	askCircles(t, table(four, hold(1, 4, impl.LkS), hold(2, 2, impl.LkS), hold(3, 9, impl.LkS), hold(4, 6, impl.LkS)), []int{1, 2}, []int{3, 4})
	askCircles(t, table(four, hold(1, 4, impl.LkS), hold(3, 9, impl.LkS), hold(4, 6, impl.LkS), hold(2, 1, impl.LkS)), []int{1, 2}, []int{3, 4})
	// Several circles through one session are one.
	askCircles(t, table(three, hold(2, 2, impl.LkS), hold(3, 2, impl.LkS), hold(1, 1, impl.LkS)), []int{1, 2, 3})
	askCircles(t, table(append(slices.Clone(four), hold(5, 5, impl.LkIS)), hold(2, 2, impl.LkS), hold(3, 9, impl.LkS), hold(4, 2, impl.LkS), hold(5, 4, impl.LkS), hold(1, 1, impl.LkS)), []int{1, 2, 3, 4})
	// Through waits: 3 stands behind the wait of 2, which stands behind the lock of 1.
	askCircles(t, table(holds(hold(1, 5, impl.LkS), hold(2, 4, impl.LkX), hold(3, 2, impl.LkX)), hold(2, 5, impl.LkX), hold(3, 5, impl.LkS), hold(1, 2, impl.LkS)), []int{1, 2, 3})
	askCircles(t, table(holds(hold(1, 5, impl.LkS), hold(2, 4, impl.LkX), hold(3, 2, impl.LkX)), hold(3, 5, impl.LkS), hold(2, 5, impl.LkX), hold(1, 2, impl.LkS)))
	askCircles(t, table(holds(hold(1, 5, impl.LkS), hold(2, 5, impl.LkS)), hold(2, 5, impl.LkX), hold(1, 5, impl.LkX)), []int{1, 2})
	// Waits that are asked for later stand against nobody, and are in no circle.
	askCircles(t, table(holds(hold(1, 4, impl.LkX)), hold(2, 4, impl.LkX), hold(3, 4, impl.LkX), hold(4, 4, impl.LkX)))
}

// ring is a table of fanDoc: each of so many sessions has a kid of Root, and waits for that of the next one.
func ring(sessions int) impl.Table {
	var x impl.Table
	for s := range sessions {
		x.Holds = append(x.Holds, hold(s+1, s+2, impl.LkX))
		x.Waits = append(x.Waits, hold(s+1, (s+1)%sessions+2, impl.LkX))
	}
	return x
}

// TestP11Rings has circles as great as there may be, and breaks them by each ask that may be the last one.
func TestP11Rings(t *testing.T) {
	d := fanDoc(impl.MaxKids)
	for sessions := 2; sessions <= impl.MaxWaits; sessions++ {
		whole := ring(sessions)
		var all []int
		for s := 1; s <= sessions; s++ {
			all = append(all, s)
		}
		for s, last := range whole.Waits {
			if got, code := impl.CircleOf(d, whole, s+1); code != impl.OK || !alike(got, all) {
				t.Errorf("CircleOf(%v, %d) = %v, %d", whole, s+1, got, code)
			}
			x := table(whole.Holds, slices.Delete(slices.Clone(whole.Waits), s, s+1)...)
			then := asked{last, impl.ErrWait, []int{sessions - 1}, []int{sessions}}
			switch s + 1 {
			case sessions:
				then.code = impl.ErrVictim
			case sessions - 1:
				then.code = impl.OK
			}
			y := askAll(t, d, x, then)
			// The one who waited for the victim has its lock; all others wait still.
			if len(y.Holds) != sessions || len(y.Waits) != sessions-2 {
				t.Errorf("%v", y)
			}
		}
	}
	// A seventh wait, which would close a circle of seven, is refused.
	x := ring(7)
	x.Waits = x.Waits[:6]
	askSame(t, askAll(t, d, x, refused(7, 2, impl.LkX, impl.ErrFull)), x)
}

// TestP11Victims: the one who asks, another one, one of three.
func TestP11Victims(t *testing.T) {
	two := askAll(t, demoDoc(), impl.Table{}, atOnce(1, 4, impl.LkX), atOnce(2, 6, impl.LkX))
	x := askAll(t, demoDoc(), two, waits(1, 6, impl.LkS), asked{hold(2, 4, impl.LkS), impl.ErrVictim, []int{1}, []int{2}})
	askSame(t, x, table(holds(hold(1, 4, impl.LkX), hold(1, 6, impl.LkS))))
	x = askAll(t, demoDoc(), two, waits(2, 4, impl.LkS), asked{hold(1, 6, impl.LkS), impl.OK, []int{1}, []int{2}})
	askSame(t, x, table(holds(hold(1, 4, impl.LkX), hold(1, 6, impl.LkS))))
	// The victim's other locks are gone too, and who waited for these is granted them, ahead of the one who asks.
	x = askAll(t, demoDoc(), two, atOnce(2, 2, impl.LkX), waits(3, 2, impl.LkS), waits(2, 4, impl.LkS), asked{hold(1, 6, impl.LkS), impl.OK, []int{3, 1}, []int{2}})
	askSame(t, x, table(holds(hold(1, 4, impl.LkX), hold(1, 6, impl.LkS), hold(3, 2, impl.LkS))))
	// The circle is broken, and yet it waits: for one who is none of it.
	x = askAll(t, demoDoc(), two, atOnce(9, 9, impl.LkS), waits(2, 4, impl.LkS), asked{hold(1, 5, impl.LkX), impl.ErrWait, nil, []int{2}})
	askSame(t, x, table(holds(hold(1, 4, impl.LkX), hold(9, 9, impl.LkS)), hold(1, 5, impl.LkX)))
	// Three, by each order of their asks.
	three := askAll(t, demoDoc(), impl.Table{}, atOnce(1, 2, impl.LkX), atOnce(2, 4, impl.LkX), atOnce(3, 6, impl.LkX))
	askAll(t, demoDoc(), three, waits(1, 4, impl.LkS), waits(2, 6, impl.LkS), asked{hold(3, 2, impl.LkS), impl.ErrVictim, []int{2}, []int{3}})
	askAll(t, demoDoc(), three, waits(3, 2, impl.LkS), waits(2, 6, impl.LkS), asked{hold(1, 4, impl.LkS), impl.ErrWait, []int{2}, []int{3}})
	askAll(t, demoDoc(), three, waits(1, 4, impl.LkS), waits(3, 2, impl.LkS), asked{hold(2, 6, impl.LkS), impl.OK, []int{2}, []int{3}})
	// A session that leads to the circle, and has a greater number, is no victim.
	x = askAll(t, demoDoc(), two, waits(9, 4, impl.LkS), waits(2, 4, impl.LkS), asked{hold(1, 6, impl.LkS), impl.OK, []int{1}, []int{2}})
	askSame(t, x, table(holds(hold(1, 4, impl.LkX), hold(1, 6, impl.LkS)), hold(9, 4, impl.LkS)))
	// Nor is one to whom the circle leads.
	askAll(t, demoDoc(), two, atOnce(9, 9, impl.LkX), waits(2, 4, impl.LkS), asked{hold(1, 5, impl.LkS), impl.ErrWait, nil, []int{2}})
}

// TestP11SeveralCirclesOfOneAsk: they are broken one after the other, by the greatest session of what is left.
func TestP11SeveralCirclesOfOneAsk(t *testing.T) {
	d := fanDoc(6)
	base := askAll(t, d, impl.Table{}, atOnce(1, 2, impl.LkX), atOnce(4, 3, impl.LkX), atOnce(2, 4, impl.LkX), atOnce(3, 5, impl.LkX))
	base = askAll(t, d, base, waits(3, 2, impl.LkS), waits(4, 2, impl.LkS), waits(2, 2, impl.LkS))
	askSame(t, askAll(t, d, base, asked{hold(1, 1, impl.LkS), impl.OK, []int{1}, []int{4, 3, 2}}), table(holds(hold(1, 1, impl.LkS), hold(1, 2, impl.LkX))))
	// By a lock that only some of them stand against, the others wait on.
	askSame(t, askAll(t, d, base, asked{hold(1, 3, impl.LkS), impl.OK, []int{1}, []int{4}}), table(holds(hold(1, 2, impl.LkX), hold(1, 3, impl.LkS), hold(2, 4, impl.LkX), hold(3, 5, impl.LkX)), hold(3, 2, impl.LkS), hold(2, 2, impl.LkS)))
	// The one who asks is a victim in the end: those above it are victims ahead of it, those below are granted theirs.
	base = askAll(t, d, impl.Table{}, atOnce(3, 2, impl.LkX), atOnce(1, 3, impl.LkX), atOnce(5, 4, impl.LkX), atOnce(2, 5, impl.LkX), atOnce(4, 6, impl.LkX))
	base = askAll(t, d, base, waits(4, 2, impl.LkS), waits(2, 2, impl.LkS), waits(5, 2, impl.LkS), waits(1, 2, impl.LkS))
	askSame(t, askAll(t, d, base, asked{hold(3, 1, impl.LkS), impl.ErrVictim, []int{2, 1}, []int{5, 4, 3}}), table(holds(hold(1, 2, impl.LkS), hold(1, 3, impl.LkX), hold(2, 2, impl.LkS), hold(2, 5, impl.LkX))))
	// Two circles that share the one who asks alone.
	base = askAll(t, d, impl.Table{}, atOnce(1, 2, impl.LkX), atOnce(2, 3, impl.LkX), atOnce(3, 4, impl.LkX), atOnce(4, 5, impl.LkX), atOnce(5, 6, impl.LkX))
	base = askAll(t, d, base, waits(2, 4, impl.LkS), waits(3, 2, impl.LkS), waits(4, 6, impl.LkS), waits(5, 2, impl.LkS))
	y := askAll(t, d, base, asked{hold(1, 1, impl.LkS), impl.ErrWait, []int{2, 4}, []int{5, 3}})
	askSame(t, y, table(holds(hold(1, 2, impl.LkX), hold(2, 3, impl.LkX), hold(2, 4, impl.LkS), hold(4, 5, impl.LkX), hold(4, 6, impl.LkS)), hold(1, 1, impl.LkS)))
}

// askNoCircles asks of a table that asks led to what P11 and P10 promise: no circle stands, the peace is kept, and whoever
// waits has somebody against it, or no room.
func askNoCircles(t *testing.T, d impl.Doc, x impl.Table) {
	t.Helper()
	for _, w := range x.Waits {
		if circle, code := impl.CircleOf(d, x, w.Session); len(circle) > 0 || code != impl.OK {
			t.Fatalf("CircleOf %d in %v of %v: %v, %d", w.Session, x, d, circle, code)
		}
		against, _ := impl.BlockersOf(d, x, w.Session)
		if _, code := impl.PutHold(d, x.Holds, w); len(against) == 0 && code == impl.OK {
			t.Fatalf("%v waits for nobody in %v of %v", w, x, d)
		}
	}
	if peace, code := impl.Peaceful(d, x.Holds); !peace || code != impl.OK || !impl.TableOK(d, x) {
		t.Fatalf("the peace is broken in %v of %v", x, d)
	}
}

// askVictims asks of an answer of AskLock that each victim was the greatest one of a circle with the session that asked,
// those ahead of it gone, and that it has nothing then.
func askVictims(t *testing.T, d impl.Doc, x, y impl.Table, h impl.Hold, victims []int) {
	t.Helper()
	then := table(x.Holds, append(slices.Clone(x.Waits), h)...)
	for _, victim := range victims {
		circle, _ := circleByTheRule(d, then, h.Session)
		has := slices.ContainsFunc(slices.Concat(y.Holds, y.Waits), func(o impl.Hold) bool { return o.Session == victim })
		if len(circle) < 2 || !slices.Contains(circle, h.Session) || slices.Max(circle) != victim || has {
			t.Fatalf("AskLock(%v, %v, %v): victims %v; the circle is %v", d, x, h, victims, circle)
		}
		then = withoutByTheRule(then, victim)
	}
}

// TestP11TablesThatAsksLedTo goes from the empty table on by asks, locks that are freed, and sessions that leave.
func TestP11TablesThatAsksLedTo(t *testing.T) {
	throw := &dice{163}
	codes := map[int]int{}
	var several tally
	for range 250 {
		d := thrownDoc(throw, 8)
		var x impl.Table
		for range 25 {
			h := thrownWait(throw, d)
			askTable(t, d, x, h)
			switch throw.below(8) {
			case 0:
				x, _, _ = impl.LeaveTable(d, x, h.Session)
			case 1:
				x, _, _ = impl.FreeLock(d, x, h.Session, h.Node)
			default:
				y, granted, victims, code := impl.AskLock(d, x, h)
				askVictims(t, d, x, y, h, victims)
				several.count(len(victims) > 1 || len(granted) > 1)
				codes[code]++
				x = y
			}
			askNoCircles(t, d, x)
		}
	}
	for _, code := range []int{impl.OK, impl.ErrWait, impl.ErrVictim, impl.ErrHeld} {
		if codes[code] < 100 {
			t.Error("too few of code", code, codes)
		}
	}
	if several.yes < 50 {
		t.Error("too few of several:", several)
	}
}

// TestP11FullTablesThatAsksLedTo has many sessions, which come to MaxHolds and to MaxWaits.
func TestP11FullTablesThatAsksLedTo(t *testing.T) {
	throw := &dice{167}
	full := map[string]int{}
	for range 40 {
		d := thrownDoc(throw, 40)
		var x impl.Table
		for i := range 150 {
			h := hold(1+throw.below(12), d.Nodes[throw.below(len(d.Nodes))].Id, impl.LkIS)
			if i > 50 {
				h.Mode = 1 + throw.below(5)
			}
			if throw.below(20) == 0 {
				x, _, _ = impl.LeaveTable(d, x, h.Session)
				askNoCircles(t, d, x)
			}
			y, granted, victims, code := impl.AskLock(d, x, h)
			switch {
			case code == impl.ErrFull && len(x.Waits) == impl.MaxWaits:
				full["waits"]++
			case code == impl.ErrFull && len(x.Holds) == impl.MaxHolds:
				full["holds"]++
			case code == impl.ErrVictim && len(granted) > 0:
				full["victims"]++
			}
			askVictims(t, d, x, y, h, victims)
			askNoCircles(t, d, y)
			x = y
		}
	}
	for _, sort := range []string{"holds", "waits", "victims"} {
		if full[sort] < 10 {
			t.Error("too few of", sort, full)
		}
	}
}
