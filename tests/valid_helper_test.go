package tests

import (
	"slices"
	"testing"

	"loop.example/g00701/impl"
)

// rulesOf is the schema of lines.
func rulesOf(t *testing.T, lines ...string) []impl.Rule {
	t.Helper()
	list, code := impl.ReadSchema(lines)
	if code != impl.OK {
		t.Fatalf("ReadSchema(%q) = %d", lines, code)
	}
	return list
}

// fullLines is a schema whose kind 1 has a least document of 40 nodes, and kind 2 one of 41.
func fullLines() []string {
	return []string{"forty: many few few some", "more: many few few others", "leaf: text", "few: leaf leaf leaf leaf", "many: few few few few", "some: few leaf leaf", "others: few leaf leaf leaf"}
}

// deepLines is a schema whose kind 3 has a least document of six levels, kind 2 one of seven and kind 1 one of eight.
func deepLines() []string {
	return []string{"a: b", "b: c", "c: d", "d: e", "e: f", "f: g", "g: h", "h:"}
}

// thrownTaken is a document that a schema takes, with Ids as dice fall: Nodes are in another order than InOrder. There is
// none if it would be too deep or too large.
func thrownTaken(throw *dice, list []impl.Rule) (impl.Doc, bool) {
	var nodes []impl.Node
	fits := true
	var grow func(kind, level int) int
	grow = func(kind, level int) int {
		at := len(nodes)
		nodes = append(nodes, impl.Node{Kind: kind, Attr: throw.below(100)})
		if fits = fits && level <= 6 && len(nodes) <= 40; !fits {
			return at
		}
		r := list[kind-1]
		if r.Leaf {
			nodes[at].Text = []string{"", "a", "twenty bytes of text"}[throw.below(3)]
		}
		for _, kid := range thrownKids(throw, r.Terms, level) {
			place := grow(kid, level+1)
			nodes[at].Kids = append(nodes[at].Kids, place)
		}
		return at
	}
	grow(1+throw.below(len(list)), 1)
	if !fits {
		return impl.Doc{}, false
	}
	return numbered(throw, nodes), true
}

// thrownKids are fewer the lower they stand, so that documents come to an end.
func thrownKids(throw *dice, terms []impl.Term, level int) []int {
	kids := taken(throw, terms)
	for range level - 1 {
		if other := taken(throw, terms); len(other) < len(kids) {
			kids = other
		}
	}
	return kids[:min(len(kids), 12)]
}

// numbered gives nodes, whose Kids are places, and the first of which is Root, Ids with gaps, in an order as dice fall.
func numbered(throw *dice, nodes []impl.Node) impl.Doc {
	ids := make([]int, len(nodes))
	last := 0
	for i := range ids {
		last += 1 + throw.below(3)
		ids[i] = last
	}
	for i := len(ids) - 1; i > 0; i-- {
		j := throw.below(i + 1)
		ids[i], ids[j] = ids[j], ids[i]
	}
	d := impl.Doc{Root: ids[0], Next: last + 1 + throw.below(3)}
	for i, n := range nodes {
		n.Id = ids[i]
		for j := range n.Kids {
			n.Kids[j] = ids[n.Kids[j]]
		}
		d.Nodes = append(d.Nodes, n)
	}
	slices.SortFunc(d.Nodes, func(a, b impl.Node) int { return a.Id - b.Id })
	return d
}

// disturbed has some nodes of another Kind or Text; it is a right document still.
func disturbed(throw *dice, d impl.Doc, times int) impl.Doc {
	d = clone(d)
	for range times {
		n := &d.Nodes[throw.below(len(d.Nodes))]
		switch throw.below(3) {
		case 0:
			n.Kind = 1 + throw.below(8)
		case 1:
			n.Text = "x"
		default:
			for i := len(n.Kids) - 1; i > 0; i-- {
				j := throw.below(i + 1)
				n.Kids[i], n.Kids[j] = n.Kids[j], n.Kids[i]
			}
		}
	}
	return d
}

// The same things by the words of chapter 6, slowly.

func kidsByTheRule(d impl.Doc, id int) []int {
	var kinds []int
	n, _ := nodeByTheRule(d, id)
	for _, kid := range n.Kids {
		k, _ := nodeByTheRule(d, kid)
		kinds = append(kinds, k.Kind)
	}
	return kinds
}

// askedByTheRule: the codes that come ahead of what is asked of a node.
func askedByTheRule(list []impl.Rule, d impl.Doc, id int) int {
	n, there := nodeByTheRule(d, id)
	switch {
	case len(list) > impl.MaxList:
		return impl.ErrLong
	case !schemaByTheRule(list), !rightByTheRule(d):
		return impl.ErrBad
	case !there:
		return impl.ErrNone
	case n.Kind > len(list):
		return impl.ErrKind
	}
	return impl.OK
}

func checkByTheRule(list []impl.Rule, d impl.Doc, id int) int {
	if code := askedByTheRule(list, d, id); code != impl.OK {
		return code
	}
	n, _ := nodeByTheRule(d, id)
	r := list[n.Kind-1]
	switch {
	case r.Leaf && len(n.Kids) > 0, !r.Leaf && n.Text != "":
		return impl.ErrContent
	case !r.Leaf && !matchByTheRule(r.Terms, kidsByTheRule(d, id)):
		return impl.ErrContent
	}
	return impl.OK
}

func checkDocByTheRule(list []impl.Rule, d impl.Doc) (int, int) {
	if len(list) > impl.MaxList {
		return 0, impl.ErrLong
	}
	if !schemaByTheRule(list) || !rightByTheRule(d) {
		return 0, impl.ErrBad
	}
	for _, id := range orderByTheRule(d, d.Root) {
		if code := checkByTheRule(list, d, id); code != impl.OK {
			return id, code
		}
	}
	return 0, impl.OK
}

// leastByTheRule takes the lowest kind of each term that may not be empty (the tests of chapter 5 say that these are the
// first kids). Places that are still to be filled stand on a stack.
func leastByTheRule(list []impl.Rule, kind int) (impl.Doc, int) {
	switch {
	case len(list) > impl.MaxList:
		return impl.Doc{}, impl.ErrLong
	case !schemaByTheRule(list):
		return impl.Doc{}, impl.ErrBad
	case kind < 1 || kind > len(list):
		return impl.Doc{}, impl.ErrKind
	}
	type place struct{ kind, up, level int }
	d := impl.Doc{Root: 1, Next: 1}
	for stack := []place{{kind, 0, 1}}; len(stack) > 0; d.Next++ {
		p := stack[len(stack)-1]
		stack = stack[:len(stack)-1]
		if p.level > 6 || d.Next > 40 {
			return impl.Doc{}, impl.ErrDeep
		}
		d.Nodes = append(d.Nodes, impl.Node{Id: d.Next, Kind: p.kind})
		if p.up > 0 {
			d.Nodes[p.up-1].Kids = append(d.Nodes[p.up-1].Kids, d.Next)
		}
		for _, t := range slices.Backward(list[p.kind-1].Terms) {
			if t.Many == 0 || t.Many == 3 {
				stack = append(stack, place{t.Kinds[0], d.Next, p.level + 1})
			}
		}
	}
	return d, impl.OK
}

func mayInsertByTheRule(list []impl.Rule, d impl.Doc, id int) ([]int, int) {
	if code := askedByTheRule(list, d, id); code != impl.OK {
		return nil, code
	}
	n, _ := nodeByTheRule(d, id)
	kids := kidsByTheRule(d, id)
	if list[n.Kind-1].Leaf || len(kids) == 12 {
		return nil, impl.OK
	}
	var kinds []int
	for kind := 1; kind <= 8; kind++ {
		for at := range len(kids) + 1 {
			if matchByTheRule(list[n.Kind-1].Terms, slices.Concat(kids[:at], []int{kind}, kids[at:])) {
				kinds = append(kinds, kind)
				break
			}
		}
	}
	return kinds, impl.OK
}
