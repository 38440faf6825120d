package tests

import (
	"math"
	"slices"
	"testing"

	"loop.example/g00701/impl"
)

func hold(session, node, mode int) impl.Hold {
	return impl.Hold{Session: session, Node: node, Mode: mode}
}

// modes are all of them, the lowest one first.
func modes() []int {
	return []int{impl.LkNone, impl.LkIS, impl.LkIX, impl.LkS, impl.LkSIX, impl.LkX}
}

func lockModes() []int {
	return modes()[1:]
}

// fullHolds are so many locks on the demo document (at most 9 of a session), which keep the peace.
func fullHolds(locks int) []impl.Hold {
	var list []impl.Hold
	for i := range locks {
		list = append(list, hold(10+i/9, 1+i%9, impl.LkIS))
	}
	return list
}

// rightHolds are lists of locks on the demo document.
func rightHolds() [][]impl.Hold {
	return [][]impl.Hold{
		nil, {}, {hold(1, 1, impl.LkX)}, {hold(999, 9, impl.LkIS)}, fullHolds(29), fullHolds(30),
		{hold(1, 4, impl.LkS), hold(1, 7, impl.LkX), hold(2, 2, impl.LkS)},
		{hold(1, 9, impl.LkS), hold(2, 1, impl.LkX)},
		{hold(3, 1, impl.LkIX), hold(3, 5, impl.LkSIX), hold(3, 9, impl.LkX), hold(4, 2, impl.LkIX), hold(999, 1, impl.LkIS)},
		{hold(1, 1, impl.LkX), hold(2, 1, impl.LkX), hold(3, 1, impl.LkX), hold(4, 1, impl.LkX)},
	}
}

// wrongHolds break each sentence of chapter 8 on the demo document.
func wrongHolds() [][]impl.Hold {
	one, two, three := hold(2, 3, impl.LkIS), hold(2, 5, impl.LkS), hold(3, 1, impl.LkIX)
	list := [][]impl.Hold{
		{two, one}, {three, one}, {one, three, two}, {three, one, two}, {one, two, three, two},
		{one, one}, {two, three, three}, {one, one, two}, {one, hold(2, 3, impl.LkX)}, {hold(3, 9, impl.LkIS), hold(2, 1, impl.LkIS)},
		fullHolds(31), make([]impl.Hold, 1), make([]impl.Hold, 31), make([]impl.Hold, impl.MaxList), make([]impl.Hold, impl.MaxList+1),
		slices.Repeat([]impl.Hold{one}, impl.MaxList), slices.Repeat([]impl.Hold{one}, impl.MaxList+1),
	}
	for _, n := range []int{math.MinInt, -1000, -1, 0, 1000, 1<<32 + 1, math.MaxInt} {
		list = append(list, []impl.Hold{hold(n, 3, impl.LkIS)}, []impl.Hold{one, two, hold(n, 3, impl.LkIS)}, []impl.Hold{hold(n, 3, impl.LkIS), two})
	}
	for _, n := range []int{math.MinInt, -1, 0, 10, 77, 1000000, 1<<32 + 1, math.MaxInt} {
		list = append(list, []impl.Hold{hold(2, n, impl.LkIS)}, []impl.Hold{one, two, hold(3, n, impl.LkIS)}, []impl.Hold{one, hold(2, n, impl.LkX)})
	}
	for _, n := range []int{math.MinInt, -1, 0, 6, 7, 1<<32 + 1, math.MaxInt} {
		list = append(list, []impl.Hold{hold(2, 3, n)}, []impl.Hold{hold(2, 3, n), two}, []impl.Hold{one, two, hold(3, 1, n)})
	}
	return append(list, []impl.Hold{hold(math.MaxInt, math.MaxInt, math.MaxInt)}, []impl.Hold{hold(math.MinInt, math.MinInt, math.MinInt)})
}

// strangeHolds are holds with numbers out of their bounds, one of them, two or all, and some that are right on the demo
// document.
func strangeHolds() []impl.Hold {
	var list []impl.Hold
	for _, session := range []int{math.MinInt, -1, 0, 1, 2, 999, 1000, math.MaxInt} {
		for _, node := range []int{math.MinInt, 0, 1, 9, 10, math.MaxInt} {
			for _, mode := range []int{math.MinInt, -1, 0, 1, 5, 6, math.MaxInt} {
				list = append(list, hold(session, node, mode))
			}
		}
	}
	return list
}

// thrownHolds is a right list of locks of up to five sessions.
func thrownHolds(throw *dice, d impl.Doc, most int) []impl.Hold {
	var list []impl.Hold
	for range throw.below(most + 1) {
		h := thrownHold(throw, d)
		alike := func(o impl.Hold) bool { return o.Session == h.Session && o.Node == h.Node }
		if !slices.ContainsFunc(list, alike) {
			list = append(list, h)
		}
	}
	sortHolds(list)
	return list
}

func thrownHold(throw *dice, d impl.Doc) impl.Hold {
	session := []int{1, 2, 3, 500, 999}[throw.below(5)]
	return hold(session, d.Nodes[throw.below(len(d.Nodes))].Id, 1+throw.below(5))
}

// thrownPeace is a right list that keeps the peace: what would break it is not put.
func thrownPeace(throw *dice, d impl.Doc, most int) []impl.Hold {
	var list []impl.Hold
	for range throw.below(most + 1) {
		next, code := putByTheRule(d, list, thrownHold(throw, d))
		if peace, _ := peacefulByTheRule(d, next); peace && code == impl.OK {
			list = next
		}
	}
	return list
}

// askLocks holds all calls on locks against the words of the chapter.
func askLocks(t *testing.T, d impl.Doc, list []impl.Hold, h impl.Hold) {
	t.Helper()
	ask := func(name string, got any, code int, want any, wanted int) {
		t.Helper()
		if code != wanted || !alike(got, want) {
			t.Fatalf("%s(%.400v, %.400v, %v) = %v, %d; want %v, %d", name, d, list, h, got, code, want, wanted)
		}
	}
	ask("HoldsOK", impl.HoldsOK(d, list), 0, holdsByTheRule(d, list), 0)
	mode, code := impl.ModeAt(d, list, h.Session, h.Node)
	wantMode, wanted := modeAtByTheRule(d, list, h.Session, h.Node)
	ask("ModeAt", mode, code, wantMode, wanted)
	next, code := impl.PutHold(d, list, h)
	wantNext, wanted := putByTheRule(d, list, h)
	ask("PutHold", next, code, wantNext, wanted)
	next, code = impl.DropHold(d, list, h.Session, h.Node)
	wantNext, wanted = dropByTheRule(d, list, h.Session, h.Node)
	ask("DropHold", next, code, wantNext, wanted)
	sessions, code := impl.ConflictsOf(d, list, h)
	wantSessions, wanted := conflictsByTheRule(d, list, h)
	ask("ConflictsOf", sessions, code, wantSessions, wanted)
	mode, code = impl.CoverOf(d, list, h.Session, h.Node)
	wantMode, wanted = coverByTheRule(d, list, h.Session, h.Node)
	ask("CoverOf", mode, code, wantMode, wanted)
	peace, code := impl.Peaceful(d, list)
	wantPeace, wanted := peacefulByTheRule(d, list)
	ask("Peaceful", peace, code, wantPeace, wanted)
}

// The same things by the words of chapter 8, slowly.

func fitsByTheRule(a, b int) bool {
	if a == impl.LkNone || b == impl.LkNone {
		return true
	}
	return slices.Contains(map[int][]int{
		impl.LkIS: {impl.LkIS, impl.LkIX, impl.LkS, impl.LkSIX}, impl.LkIX: {impl.LkIS, impl.LkIX}, impl.LkS: {impl.LkIS, impl.LkS}, impl.LkSIX: {impl.LkIS},
	}[a], b)
}

// joinModesByTheRule joins all modes at once.
func joinModesByTheRule(list ...int) int {
	greatest := slices.Max(append([]int{impl.LkNone}, list...))
	if greatest == impl.LkS && slices.Contains(list, impl.LkIX) {
		return impl.LkSIX
	}
	return greatest
}

func intentByTheRule(mode int) int {
	switch mode {
	case impl.LkIS, impl.LkS:
		return impl.LkIS
	case impl.LkIX, impl.LkSIX, impl.LkX:
		return impl.LkIX
	}
	return impl.LkNone
}

func holdsByTheRule(d impl.Doc, list []impl.Hold) bool {
	if !rightByTheRule(d) || len(list) > 30 {
		return false
	}
	for i, h := range list {
		if _, there := nodeByTheRule(d, h.Node); !there || h.Session < 1 || h.Session > 999 || h.Mode < 1 || h.Mode > 5 {
			return false
		}
		if i > 0 && (h.Session < list[i-1].Session || h.Session == list[i-1].Session && h.Node <= list[i-1].Node) {
			return false
		}
	}
	return true
}

// holdCodeByTheRule is the code of a hold; calls on a session and a node alone have a Mode that is right.
func holdCodeByTheRule(d impl.Doc, list []impl.Hold, h impl.Hold) int {
	_, there := nodeByTheRule(d, h.Node)
	switch {
	case len(list) > 4096:
		return impl.ErrLong
	case !holdsByTheRule(d, list):
		return impl.ErrBad
	case h.Session < 1 || h.Session > 999:
		return impl.ErrRange
	case !there:
		return impl.ErrNone
	case h.Mode < 1 || h.Mode > 5:
		return impl.ErrMode
	}
	return impl.OK
}

func needByTheRule(d impl.Doc, h impl.Hold, node int) int {
	if h.Node == node {
		return h.Mode
	}
	if slices.Contains(pathByTheRule(d, h.Node), node) {
		return intentByTheRule(h.Mode)
	}
	return impl.LkNone
}

func hasByTheRule(d impl.Doc, list []impl.Hold, session, node int) int {
	var all []int
	for _, h := range list {
		if h.Session == session {
			all = append(all, needByTheRule(d, h, node))
		}
	}
	return joinModesByTheRule(all...)
}

func sessionsByTheRule(list []impl.Hold) []int {
	var sessions []int
	for _, h := range list {
		if !slices.Contains(sessions, h.Session) {
			sessions = append(sessions, h.Session)
		}
	}
	slices.Sort(sessions)
	return sessions
}

func sortHolds(list []impl.Hold) {
	slices.SortFunc(list, func(a, b impl.Hold) int { return (a.Session-b.Session)*1000000 + a.Node - b.Node })
}

func modeAtByTheRule(d impl.Doc, list []impl.Hold, session, node int) (int, int) {
	if code := holdCodeByTheRule(d, list, hold(session, node, 1)); code != impl.OK {
		return 0, code
	}
	return hasByTheRule(d, list, session, node), impl.OK
}

func putByTheRule(d impl.Doc, list []impl.Hold, h impl.Hold) ([]impl.Hold, int) {
	if code := holdCodeByTheRule(d, list, h); code != impl.OK {
		return nil, code
	}
	var out []impl.Hold
	for _, o := range list {
		if o.Session == h.Session && o.Node == h.Node {
			h.Mode = joinModesByTheRule(h.Mode, o.Mode)
		} else {
			out = append(out, o)
		}
	}
	out = append(out, h)
	if len(out) > 30 {
		return nil, impl.ErrFull
	}
	sortHolds(out)
	return out, impl.OK
}

func dropByTheRule(d impl.Doc, list []impl.Hold, session, node int) ([]impl.Hold, int) {
	if code := holdCodeByTheRule(d, list, hold(session, node, 1)); code != impl.OK {
		return nil, code
	}
	var out []impl.Hold
	for _, h := range list {
		if h.Session != session || h.Node != node {
			out = append(out, h)
		}
	}
	if len(out) == len(list) {
		return nil, impl.ErrHeld
	}
	return out, impl.OK
}

func conflictsByTheRule(d impl.Doc, list []impl.Hold, h impl.Hold) ([]int, int) {
	if code := holdCodeByTheRule(d, list, h); code != impl.OK {
		return nil, code
	}
	return againstByTheRule(d, list, h), impl.OK
}

func againstByTheRule(d impl.Doc, list []impl.Hold, h impl.Hold) []int {
	var against []int
	for _, session := range sessionsByTheRule(list) {
		for _, node := range pathByTheRule(d, h.Node) {
			if session != h.Session && !fitsByTheRule(wantedByTheRule(d, list, h, node), hasByTheRule(d, list, session, node)) {
				against = append(against, session)
				break
			}
		}
	}
	return against
}

// wantedByTheRule is what a session has on a node, and what a lock of its own needs there, joined.
func wantedByTheRule(d impl.Doc, list []impl.Hold, h impl.Hold, node int) int {
	return joinModesByTheRule(hasByTheRule(d, list, h.Session, node), needByTheRule(d, h, node))
}

func coverByTheRule(d impl.Doc, list []impl.Hold, session, node int) (int, int) {
	if code := holdCodeByTheRule(d, list, hold(session, node, 1)); code != impl.OK {
		return 0, code
	}
	own, above := impl.LkNone, []int{}
	for _, h := range list {
		switch {
		case h.Session != session:
		case h.Node == node:
			own = h.Mode
		case slices.Contains(pathByTheRule(d, node), h.Node):
			above = append(above, h.Mode)
		}
	}
	switch {
	case own == impl.LkX || slices.Contains(above, impl.LkX):
		return impl.LkX, impl.OK
	case slices.Contains(above, impl.LkS) || slices.Contains(above, impl.LkSIX):
		return joinModesByTheRule(own, impl.LkS), impl.OK
	}
	return own, impl.OK
}

func peacefulByTheRule(d impl.Doc, list []impl.Hold) (bool, int) {
	if code := holdCodeByTheRule(d, list, hold(1, d.Root, 1)); code != impl.OK {
		return false, code
	}
	sessions := sessionsByTheRule(list)
	for _, n := range d.Nodes {
		for i, session := range sessions {
			for _, other := range sessions[:i] {
				if !fitsByTheRule(hasByTheRule(d, list, session, n.Id), hasByTheRule(d, list, other, n.Id)) {
					return false, impl.OK
				}
			}
		}
	}
	return true, impl.OK
}
