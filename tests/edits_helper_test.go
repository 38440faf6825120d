package tests

import (
	"math"
	"slices"
	"strings"

	"loop.example/g00701/impl"
)

func rightEdits() []impl.Edit {
	var list []impl.Edit
	for _, node := range []int{1, 2, 9, 999999} {
		list = append(list,
			impl.Edit{Kind: impl.EdInsert, Node: node, A: 1}, impl.Edit{Kind: impl.EdInsert, Node: node, A: 8, B: 12}, impl.Edit{Kind: impl.EdDelete, Node: node},
			impl.Edit{Kind: impl.EdText, Node: node}, impl.Edit{Kind: impl.EdText, Node: node, Text: "twenty bytes of text"}, impl.Edit{Kind: impl.EdAttr, Node: node}, impl.Edit{Kind: impl.EdAttr, Node: node, A: 99},
			impl.Edit{Kind: impl.EdMove, Node: node, A: 1}, impl.Edit{Kind: impl.EdMove, Node: node, A: 999999, B: 12}, impl.Edit{Kind: impl.EdMove, Node: node, A: 3, B: 1},
			impl.Edit{Kind: impl.EdWrap, Node: node, A: 1}, impl.Edit{Kind: impl.EdWrap, Node: node, A: 8}, impl.Edit{Kind: impl.EdLift, Node: node},
			impl.Edit{Kind: impl.EdSplit, Node: node}, impl.Edit{Kind: impl.EdSplit, Node: node, A: 20}, impl.Edit{Kind: impl.EdSplit, Node: node, A: 1}, impl.Edit{Kind: impl.EdJoin, Node: node},
		)
	}
	return list
}

// wrongEdits break each bound of chapter 7, and have what their kind does not have.
func wrongEdits() []impl.Edit {
	var list []impl.Edit
	for _, n := range []int{math.MinInt, -1, 0, 1000000, 1<<32 + 1, math.MaxInt} {
		for kind := impl.EdInsert; kind <= impl.EdJoin; kind++ {
			list = append(list, impl.Edit{Kind: kind, Node: n, A: 1})
		}
		list = append(list, impl.Edit{Kind: impl.EdMove, Node: 2, A: n})
	}
	for _, n := range []int{math.MinInt, -1, 0, 10, 1<<32 + 1, math.MaxInt} {
		list = append(list, impl.Edit{Kind: n, Node: 1}, impl.Edit{Kind: n, Node: 1, A: 1})
	}
	for _, n := range []int{math.MinInt, -1, 1<<32 + 1, math.MaxInt} {
		for kind := impl.EdInsert; kind <= impl.EdJoin; kind++ {
			list = append(list, impl.Edit{Kind: kind, Node: 2, A: n}, impl.Edit{Kind: kind, Node: 2, A: 1, B: n}, impl.Edit{Kind: kind, Node: 2, B: n})
		}
	}
	for kind := impl.EdInsert; kind <= impl.EdJoin; kind++ {
		list = append(list, impl.Edit{Kind: kind, Node: 2, A: 1, Text: strings.Repeat("t", impl.MaxText+1)})
		if kind != impl.EdText {
			list = append(list, impl.Edit{Kind: kind, Node: 2, A: 1, Text: "t"})
		}
		if kind != impl.EdInsert && kind != impl.EdMove {
			list = append(list, impl.Edit{Kind: kind, Node: 2, A: 1, B: 1})
		}
	}
	for _, kind := range []int{impl.EdDelete, impl.EdText, impl.EdLift, impl.EdJoin} {
		list = append(list, impl.Edit{Kind: kind, Node: 2, A: 1})
	}
	return append(list,
		impl.Edit{}, impl.Edit{Kind: impl.EdInsert, Node: 2}, impl.Edit{Kind: impl.EdInsert, Node: 2, A: 9}, impl.Edit{Kind: impl.EdInsert, Node: 2, A: 1, B: 13},
		impl.Edit{Kind: impl.EdText, Node: 2, Text: zeros(21)}, impl.Edit{Kind: impl.EdAttr, Node: 2, A: 100}, impl.Edit{Kind: impl.EdMove, Node: 2, A: 1, B: 13},
		impl.Edit{Kind: impl.EdWrap, Node: 2}, impl.Edit{Kind: impl.EdWrap, Node: 2, A: 9}, impl.Edit{Kind: impl.EdSplit, Node: 2, A: 21},
	)
}

// thrownEdit is a right edit of a node that is there in most cases.
func thrownEdit(throw *dice, d impl.Doc) impl.Edit {
	node := func() int {
		if throw.below(15) == 0 {
			return 1 + throw.below(d.Next)
		}
		return d.Nodes[throw.below(len(d.Nodes))].Id
	}
	e := impl.Edit{Kind: 1 + throw.below(9), Node: node()}
	switch e.Kind {
	case impl.EdInsert:
		e.A, e.B = 1+throw.below(8), throw.below(4)
	case impl.EdText:
		e.Text = "twenty bytes of text"[:throw.below(21)]
	case impl.EdAttr:
		e.A = throw.below(100)
	case impl.EdMove:
		e.A, e.B = node(), throw.below(4)
	case impl.EdWrap:
		e.A = 1 + throw.below(8)
	case impl.EdSplit:
		e.A = throw.below(4)
	}
	return e
}

// The same things by the words of chapter 7, on the lists of a document themselves.

func editOKByTheRule(e impl.Edit) bool {
	has := func(lowA, highA, highB, text int) bool {
		return e.A >= lowA && e.A <= highA && e.B >= 0 && e.B <= highB && len(e.Text) <= text
	}
	if e.Node < 1 || e.Node > 999999 {
		return false
	}
	switch e.Kind {
	case 1:
		return has(1, 8, 12, 0)
	case 3:
		return has(0, 0, 0, 20)
	case 4:
		return has(0, 99, 0, 0)
	case 5:
		return has(1, 999999, 12, 0)
	case 6:
		return has(1, 8, 0, 0)
	case 8:
		return has(0, 20, 0, 0)
	case 2, 7, 9:
		return has(0, 0, 0, 0)
	}
	return false
}

func at(d *impl.Doc, id int) *impl.Node {
	for i := range d.Nodes {
		if d.Nodes[i].Id == id {
			return &d.Nodes[i]
		}
	}
	return nil
}

// addNode is of the Id Next; it is no node's kid yet.
func addNode(d *impl.Doc, n impl.Node) int {
	n.Id = d.Next
	d.Next++
	d.Nodes = append(d.Nodes, n)
	return n.Id
}

func dropNodes(d *impl.Doc, ids ...int) {
	d.Nodes = slices.DeleteFunc(d.Nodes, func(n impl.Node) bool { return slices.Contains(ids, n.Id) })
}

// putKids has kids in the place of a node among those of its parent.
func putKids(d *impl.Doc, id int, kids ...int) {
	up := at(d, parentsByTheRule(*d, id)[0])
	place := slices.Index(up.Kids, id)
	up.Kids = slices.Concat(up.Kids[:place], kids, up.Kids[place+1:])
}

// turnByTheRule makes the edit of a node that is there, and is not Root where that is refused; the codes are those of its
// own row.
func turnByTheRule(d *impl.Doc, e impl.Edit) int {
	n := at(d, e.Node)
	switch e.Kind {
	case impl.EdInsert:
		if e.B > len(n.Kids) {
			return impl.ErrRange
		}
		n.Kids = slices.Insert(n.Kids, e.B, d.Next)
		addNode(d, impl.Node{Kind: e.A})
	case impl.EdDelete:
		gone := orderByTheRule(*d, e.Node)
		putKids(d, e.Node)
		dropNodes(d, gone...)
	case impl.EdText:
		n.Text = e.Text
	case impl.EdAttr:
		n.Attr = e.A
	case impl.EdMove:
		return moveByTheRule(d, e)
	case impl.EdWrap:
		putKids(d, e.Node, addNode(d, impl.Node{Kind: e.A}))
		at(d, d.Next-1).Kids = []int{e.Node}
	case impl.EdLift:
		putKids(d, e.Node, n.Kids...)
		dropNodes(d, e.Node)
	case impl.EdSplit:
		return splitByTheRule(d, e)
	case impl.EdJoin:
		return joinByTheRule(d, e)
	}
	return impl.OK
}

func moveByTheRule(d *impl.Doc, e impl.Edit) int {
	if at(d, e.A) == nil {
		return impl.ErrNone
	}
	if slices.Contains(orderByTheRule(*d, e.Node), e.A) {
		return impl.ErrOrder
	}
	putKids(d, e.Node)
	to := at(d, e.A)
	if e.B > len(to.Kids) {
		return impl.ErrRange
	}
	to.Kids = slices.Insert(to.Kids, e.B, e.Node)
	return impl.OK
}

func splitByTheRule(d *impl.Doc, e impl.Edit) int {
	n := at(d, e.Node)
	other := impl.Node{Kind: n.Kind, Attr: n.Attr}
	if len(n.Kids) > 0 {
		if e.A > len(n.Kids) {
			return impl.ErrRange
		}
		n.Kids, other.Kids = slices.Clone(n.Kids[:e.A]), slices.Clone(n.Kids[e.A:])
	} else {
		if e.A > len(n.Text) {
			return impl.ErrRange
		}
		n.Text, other.Text = n.Text[:e.A], n.Text[e.A:]
	}
	putKids(d, e.Node, e.Node, addNode(d, other))
	return impl.OK
}

func joinByTheRule(d *impl.Doc, e impl.Edit) int {
	kids := at(d, parentsByTheRule(*d, e.Node)[0]).Kids
	place := slices.Index(kids, e.Node)
	if place == len(kids)-1 {
		return impl.ErrNone
	}
	n, other := at(d, e.Node), *at(d, kids[place+1])
	if n.Kind != other.Kind {
		return impl.ErrKind
	}
	if len(n.Text+other.Text) > 20 || len(n.Kids)+len(other.Kids) > 12 {
		return impl.ErrFull
	}
	n.Text += other.Text
	n.Kids = slices.Concat(n.Kids, other.Kids)
	at(d, parentsByTheRule(*d, e.Node)[0]).Kids = slices.Delete(slices.Clone(kids), place+1, place+2)
	dropNodes(d, other.Id)
	return impl.OK
}

func applyByTheRule(d impl.Doc, e impl.Edit) (impl.Doc, int) {
	if !rightByTheRule(d) || !editOKByTheRule(e) {
		return impl.Doc{}, impl.ErrBad
	}
	if _, there := nodeByTheRule(d, e.Node); !there {
		return d, impl.ErrNone
	}
	if e.Node == d.Root && e.Kind != 1 && e.Kind != 3 && e.Kind != 4 {
		return d, impl.ErrRoot
	}
	then := clone(d)
	if code := turnByTheRule(&then, e); code != impl.OK {
		return d, code
	}
	many := func(n impl.Node) bool { return len(n.Kids) > 12 }
	switch {
	case len(then.Nodes) > 40, then.Next > 999999, slices.ContainsFunc(then.Nodes, many):
		return d, impl.ErrFull
	case levelsByTheRule(then) > 6:
		return d, impl.ErrDeep
	}
	return then, impl.OK
}

// thrownEdits are edits of a document as it is then, but for one in some lists that is of a node that is not there.
func thrownEdits(throw *dice, d impl.Doc, edits int) []impl.Edit {
	var list []impl.Edit
	for range edits {
		e := thrownEdit(throw, d)
		if then, code := applyByTheRule(d, e); code == impl.OK {
			d = then
		} else if throw.below(3) > 0 {
			continue
		}
		list = append(list, e)
	}
	return list
}

func applyAllByTheRule(d impl.Doc, list []impl.Edit) (impl.Doc, int, int) {
	if len(list) > impl.MaxList {
		return impl.Doc{}, 0, impl.ErrLong
	}
	if !rightByTheRule(d) || slices.ContainsFunc(list, func(e impl.Edit) bool { return !editOKByTheRule(e) }) {
		return impl.Doc{}, 0, impl.ErrBad
	}
	for i, e := range list {
		then, code := applyByTheRule(d, e)
		if code != impl.OK {
			return d, i, code
		}
		d = then
	}
	return d, len(list), impl.OK
}
