package tests

import (
	"fmt"
	"math"
	"reflect"
	"slices"

	"loop.example/g00701/impl"
)

// demoDoc is the document of chapter 14: four levels of sections, a list and its item.
func demoDoc() impl.Doc {
	return impl.Doc{Root: 1, Next: 10, Nodes: []impl.Node{
		{Id: 1, Kind: 1, Kids: []int{2, 3, 5}},
		{Id: 2, Kind: 3, Text: "intro"},
		{Id: 3, Kind: 2, Kids: []int{4}},
		{Id: 4, Kind: 3, Text: "one"},
		{Id: 5, Kind: 2, Kids: []int{6, 7}},
		{Id: 6, Kind: 3, Text: "two"},
		{Id: 7, Kind: 4, Kids: []int{8}},
		{Id: 8, Kind: 5, Kids: []int{9}},
		{Id: 9, Kind: 3, Attr: 7, Text: "point"},
	}}
}

// tangledDoc has Ids with gaps, a Root that is not the least one, and Kids that do not rise.
func tangledDoc() impl.Doc {
	return impl.Doc{Root: 30, Next: 500, Nodes: []impl.Node{
		{Id: 2, Kind: 8, Attr: 99, Text: "twenty bytes of text"},
		{Id: 3, Kind: 1, Kids: []int{70, 4}},
		{Id: 4, Kind: 2, Text: "\x00\xff"},
		{Id: 30, Kind: 5, Attr: 1, Text: "root", Kids: []int{50, 3, 2}},
		{Id: 50, Kind: 6, Kids: []int{51}},
		{Id: 51, Kind: 6, Text: "a"},
		{Id: 70, Kind: 7, Kids: []int{99}},
		{Id: 99, Kind: 7, Attr: 50, Kids: []int{}},
	}}
}

// chainDoc has one node on each level.
func chainDoc(levels int) impl.Doc {
	d := impl.Doc{Root: 1, Next: levels + 1}
	for id := 1; id <= levels; id++ {
		n := impl.Node{Id: id, Kind: 1}
		if id < levels {
			n.Kids = []int{id + 1}
		}
		d.Nodes = append(d.Nodes, n)
	}
	return d
}

// fanDoc has a Root with so many Kids.
func fanDoc(kids int) impl.Doc {
	d := impl.Doc{Root: 1, Next: kids + 2, Nodes: []impl.Node{{Id: 1, Kind: 2}}}
	for id := 2; id <= kids+1; id++ {
		d.Nodes[0].Kids = append(d.Nodes[0].Kids, id)
		d.Nodes = append(d.Nodes, impl.Node{Id: id, Kind: 3})
	}
	return d
}

// bushDoc has so many nodes, each with as many Kids as there may be.
func bushDoc(nodes int) impl.Doc {
	d := impl.Doc{Root: 1, Next: max(nodes+1, 2)}
	for id := 1; id <= nodes; id++ {
		d.Nodes = append(d.Nodes, impl.Node{Id: id, Kind: 1 + id%8, Attr: id})
		if up := (id - 2) / impl.MaxKids; id > 1 {
			d.Nodes[up].Kids = append(d.Nodes[up].Kids, id)
		}
	}
	return d
}

// clone copies a document, so that a test can turn it.
func clone(d impl.Doc) impl.Doc {
	d.Nodes = slices.Clone(d.Nodes)
	for i := range d.Nodes {
		d.Nodes[i].Kids = slices.Clone(d.Nodes[i].Kids)
	}
	return d
}

func turned(d impl.Doc, turn func(*impl.Doc)) impl.Doc {
	d = clone(d)
	turn(&d)
	return d
}

// thrownDoc is a right document of up to so many nodes, with gaps between Ids, as dice fall.
func thrownDoc(throw *dice, most int) impl.Doc {
	nodes := 1 + throw.below(most)
	ids := make([]int, nodes)
	id := 0
	for i := range ids {
		id += 1 + throw.below(3)
		ids[i] = id
	}
	d := impl.Doc{Next: id + 1 + throw.below(5)}
	if d.Next < 2 {
		d.Next = 2
	}
	for _, id := range ids {
		d.Nodes = append(d.Nodes, impl.Node{
			Id: id, Kind: 1 + throw.below(8), Attr: throw.below(100), Text: fmt.Sprint("t", throw.below(50)),
		})
	}
	turns := make([]int, nodes)
	for i := range turns {
		turns[i] = i
	}
	for i := len(turns) - 1; i > 0; i-- {
		j := throw.below(i + 1)
		turns[i], turns[j] = turns[j], turns[i]
	}
	level := map[int]int{turns[0]: 1}
	d.Root = d.Nodes[turns[0]].Id
	for i, place := range turns[1:] {
		for {
			up := turns[throw.below(i+1)]
			if level[up] < impl.MaxDepth && len(d.Nodes[up].Kids) < impl.MaxKids {
				at := throw.below(len(d.Nodes[up].Kids) + 1)
				d.Nodes[up].Kids = slices.Insert(d.Nodes[up].Kids, at, d.Nodes[place].Id)
				level[place] = level[up] + 1
				break
			}
		}
	}
	return d
}

func rightDocs() []impl.Doc {
	list := []impl.Doc{
		demoDoc(), tangledDoc(), chainDoc(1), chainDoc(2), chainDoc(6), fanDoc(1), fanDoc(12), bushDoc(40), bushDoc(13),
		{Root: 1, Next: 999999, Nodes: []impl.Node{{Id: 1, Kind: 8, Kids: []int{999998}}, {Id: 999998, Kind: 1}}},
		{Root: 999998, Next: 999999, Nodes: []impl.Node{{Id: 999998, Kind: 1, Text: "last"}}},
	}
	throw := &dice{3}
	for range 12 {
		list = append(list, thrownDoc(throw, 40))
	}
	return list
}

// wrongDocs breaks each sentence of chapter 3, and hands in what no program would.
func wrongDocs() []impl.Doc {
	list := []impl.Doc{
		{}, {Root: 1, Next: 2}, {Root: 0, Next: 2, Nodes: []impl.Node{{Id: 0, Kind: 1}}},
		chainDoc(7), fanDoc(13), bushDoc(41), bushDoc(5000),
		{Root: 1, Next: math.MaxInt, Nodes: []impl.Node{{Id: 1, Kind: 1}}},
		{Root: math.MinInt, Next: math.MinInt, Nodes: []impl.Node{{Id: math.MinInt, Kind: math.MinInt, Attr: math.MinInt, Kids: []int{math.MinInt}}}},
		{Root: math.MaxInt, Next: math.MaxInt, Nodes: []impl.Node{{Id: math.MaxInt, Kind: math.MaxInt, Attr: math.MaxInt, Kids: []int{math.MaxInt}}}},
		{Root: 1, Next: 3, Nodes: []impl.Node{{Kids: []int{1}}, {Kids: []int{0}}}},
	}
	for _, w := range wrongTurns() {
		list = append(list, turned(demoDoc(), w.make))
	}
	return list
}

// turn is a change of a document that a test makes, and what it is.
type turn struct {
	what string
	make func(*impl.Doc)
}

// wrongTurns make a document of the demo document that is not right.
func wrongTurns() []turn {
	return []turn{
		{"no nodes", func(d *impl.Doc) { d.Nodes = nil }},
		{"an empty list of nodes", func(d *impl.Doc) { d.Nodes = []impl.Node{} }},
		{"Root 0", func(d *impl.Doc) { d.Root = 0 }},
		{"Root below 0", func(d *impl.Doc) { d.Root = -1 }},
		{"a Root that is not there", func(d *impl.Doc) { d.Root = 10 }},
		{"a very large Root", func(d *impl.Doc) { d.Root = math.MaxInt }},
		{"a Root that is a kid", func(d *impl.Doc) { d.Root = 3 }},
		{"a Root that is a leaf", func(d *impl.Doc) { d.Root = 9 }},
		{"Next is the last Id", func(d *impl.Doc) { d.Next = 9 }},
		{"Next 0", func(d *impl.Doc) { d.Next = 0 }},
		{"Next 1", func(d *impl.Doc) { d.Next = 1 }},
		{"Next above MaxNumber", func(d *impl.Doc) { d.Next = 1000000 }},
		{"a very large Next", func(d *impl.Doc) { d.Next = math.MaxInt }},
		{"a very small Next", func(d *impl.Doc) { d.Next = math.MinInt }},
		{"Ids alike", func(d *impl.Doc) { d.Nodes[1].Id = 1 }},
		{"the last Ids alike", func(d *impl.Doc) { d.Nodes[7].Id = 9 }},
		{"Ids that fall", func(d *impl.Doc) { d.Nodes[7], d.Nodes[8] = d.Nodes[8], d.Nodes[7] }},
		{"all Ids 0", func(d *impl.Doc) { eachNode(d, func(n *impl.Node) { n.Id = 0 }) }},
		{"an Id of 0", func(d *impl.Doc) { d.Nodes[0].Id = 0; d.Root = 0 }},
		{"an Id below 0", func(d *impl.Doc) { d.Nodes[0].Id = -5; d.Root = -5 }},
		{"a very large Id", func(d *impl.Doc) { d.Nodes[8].Id = math.MaxInt; d.Nodes[7].Kids[0] = math.MaxInt }},
		{"Kind 0", func(d *impl.Doc) { d.Nodes[4].Kind = 0 }},
		{"Kind below 0", func(d *impl.Doc) { d.Nodes[4].Kind = -1 }},
		{"Kind 9", func(d *impl.Doc) { d.Nodes[8].Kind = 9 }},
		{"a very large Kind", func(d *impl.Doc) { d.Nodes[0].Kind = math.MaxInt }},
		{"Attr below 0", func(d *impl.Doc) { d.Nodes[4].Attr = -1 }},
		{"Attr 100", func(d *impl.Doc) { d.Nodes[8].Attr = 100 }},
		{"a very small Attr", func(d *impl.Doc) { d.Nodes[8].Attr = math.MinInt }},
		{"21 bytes of Text", func(d *impl.Doc) { d.Nodes[8].Text = zeros(21) }},
		{"a very long Text", func(d *impl.Doc) { d.Nodes[0].Text = zeros(impl.MaxText + 1) }},
		{"a kid that is not there", func(d *impl.Doc) { d.Nodes[3].Kids = []int{77} }},
		{"a kid of 0", func(d *impl.Doc) { d.Nodes[3].Kids = []int{0} }},
		{"a kid below 0", func(d *impl.Doc) { d.Nodes[3].Kids = []int{-9} }},
		{"a kid of Next", func(d *impl.Doc) { d.Nodes[3].Kids = []int{10} }},
		{"a very large kid", func(d *impl.Doc) { d.Nodes[3].Kids = []int{math.MaxInt} }},
		{"a kid twice of one node", func(d *impl.Doc) { d.Nodes[0].Kids = []int{2, 3, 5, 5} }},
		{"a kid of two nodes", func(d *impl.Doc) { d.Nodes[2].Kids = []int{4, 6} }},
		{"a kid of Root and of its kid", func(d *impl.Doc) { d.Nodes[0].Kids = []int{2, 3, 4, 5} }},
		{"a node that is a kid of itself", func(d *impl.Doc) { d.Nodes[3].Kids = []int{4} }},
		{"a node that is its own kid alone", func(d *impl.Doc) { d.Nodes[0].Kids = []int{3, 5}; d.Nodes[1].Kids = []int{2} }},
		{"Root is its own kid", func(d *impl.Doc) { d.Nodes[0].Kids = []int{1, 2, 3, 5} }},
		{"a circle through Root", func(d *impl.Doc) { d.Nodes[8].Kids = []int{1} }},
		{"a circle beside Root", func(d *impl.Doc) { d.Nodes[0].Kids = []int{2, 3}; d.Nodes[8].Kids = []int{5} }},
		{"a circle of two beside Root", func(d *impl.Doc) { d.Nodes[0].Kids = []int{2, 5}; d.Nodes[3].Kids = []int{3} }},
		{"a node that hangs on nothing", func(d *impl.Doc) { d.Nodes[0].Kids = []int{3, 5} }},
		{"a subtree that hangs on nothing", func(d *impl.Doc) { d.Nodes[0].Kids = []int{2, 3} }},
		{"no node hangs on Root", func(d *impl.Doc) { d.Nodes[0].Kids = nil }},
		{"more Kids than a node may have", func(d *impl.Doc) { *d = fanDoc(13) }},
		{"more Kids than there are nodes", func(d *impl.Doc) { d.Nodes[3].Kids = make([]int, 5000) }},
		{"as many Kids, but they are 0", func(d *impl.Doc) { d.Nodes[3].Kids = make([]int, 12) }},
		{"seven levels", func(d *impl.Doc) { *d = chainDoc(7) }},
		{"seven levels beside a lower branch", func(d *impl.Doc) { deepen(d, 9, 2) }},
		{"41 nodes", func(d *impl.Doc) { *d = bushDoc(41) }},
	}
}

func eachNode(d *impl.Doc, turn func(*impl.Node)) {
	for i := range d.Nodes {
		turn(&d.Nodes[i])
	}
}

// deepen hangs a chain of new nodes on a node.
func deepen(d *impl.Doc, id, levels int) {
	for range levels {
		i := slices.IndexFunc(d.Nodes, func(n impl.Node) bool { return n.Id == id })
		id = d.Next
		d.Next++
		d.Nodes[i].Kids = append(d.Nodes[i].Kids, id)
		d.Nodes = append(d.Nodes, impl.Node{Id: id, Kind: 3})
	}
}

// The same things by the words of chapter 3, slowly: each by looking through the whole list of nodes.

func nodeByTheRule(d impl.Doc, id int) (impl.Node, bool) {
	for _, n := range d.Nodes {
		if n.Id == id {
			return n, true
		}
	}
	return impl.Node{}, false
}

func parentsByTheRule(d impl.Doc, id int) []int {
	var list []int
	for _, n := range d.Nodes {
		for _, kid := range n.Kids {
			if kid == id {
				list = append(list, n.Id)
			}
		}
	}
	return list
}

func pathByTheRule(d impl.Doc, id int) []int {
	path := []int{id}
	for path[0] != d.Root && len(path) <= len(d.Nodes) {
		up := parentsByTheRule(d, path[0])
		if len(up) != 1 {
			return nil
		}
		path = append(up, path...)
	}
	if path[0] != d.Root {
		return nil
	}
	return path
}

func rightByTheRule(d impl.Doc) bool {
	if len(d.Nodes) < 1 || len(d.Nodes) > 40 || d.Next < 2 || d.Next > 999999 {
		return false
	}
	for i, n := range d.Nodes {
		if n.Id < 1 || n.Id >= d.Next || i > 0 && n.Id <= d.Nodes[i-1].Id {
			return false
		}
		if n.Kind < 1 || n.Kind > 8 || n.Attr < 0 || n.Attr > 99 || len(n.Text) > 20 || len(n.Kids) > 12 {
			return false
		}
		for _, kid := range n.Kids {
			if _, there := nodeByTheRule(d, kid); !there || kid == n.Id {
				return false
			}
		}
	}
	if _, there := nodeByTheRule(d, d.Root); !there || len(parentsByTheRule(d, d.Root)) > 0 {
		return false
	}
	for _, n := range d.Nodes {
		if path := pathByTheRule(d, n.Id); len(path) < 1 || len(path) > 6 {
			return false
		}
	}
	return true
}

func orderByTheRule(d impl.Doc, id int) []int {
	list := []int{id}
	n, _ := nodeByTheRule(d, id)
	for _, kid := range n.Kids {
		list = append(list, orderByTheRule(d, kid)...)
	}
	return list
}

func levelsByTheRule(d impl.Doc) int {
	levels := 0
	for _, n := range d.Nodes {
		levels = max(levels, len(pathByTheRule(d, n.Id)))
	}
	return levels
}

func spliceByTheRule(d, sub impl.Doc) (impl.Doc, int) {
	if !rightByTheRule(d) || !rightByTheRule(sub) {
		return impl.Doc{}, impl.ErrBad
	}
	if _, there := nodeByTheRule(d, sub.Root); !there {
		return impl.Doc{}, impl.ErrNone
	}
	replaced := orderByTheRule(d, sub.Root)
	switch {
	case d.Next+len(sub.Nodes) > 999999:
		return impl.Doc{}, impl.ErrRange
	case len(d.Nodes)-len(replaced)+len(sub.Nodes) > 40:
		return impl.Doc{}, impl.ErrFull
	case len(pathByTheRule(d, sub.Root))-1+levelsByTheRule(sub) > 6:
		return impl.Doc{}, impl.ErrDeep
	}
	out := impl.Doc{Root: d.Root, Next: d.Next}
	for _, n := range d.Nodes {
		if !slices.Contains(replaced, n.Id) {
			out.Nodes = append(out.Nodes, n)
		}
	}
	ids := map[int]int{}
	for _, id := range orderByTheRule(sub, sub.Root) {
		ids[id] = id
		if !slices.Contains(replaced, id) {
			ids[id] = out.Next
			out.Next++
		}
	}
	for _, n := range sub.Nodes {
		n.Id = ids[n.Id]
		kids := []int{}
		for _, kid := range n.Kids {
			kids = append(kids, ids[kid])
		}
		n.Kids = kids
		out.Nodes = append(out.Nodes, n)
	}
	slices.SortFunc(out.Nodes, func(a, b impl.Node) int { return a.Id - b.Id })
	return out, impl.OK
}

func alike(a, b any) bool {
	return told(reflect.ValueOf(a)) == told(reflect.ValueOf(b))
}
