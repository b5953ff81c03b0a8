package toptree

import (
	"slices"

	"palmette/bitset"
	"palmette/frame"
	"palmette/graph"
	"palmette/term"
)

// Merge describes how the ports of two children become ports of their parent.
type Merge struct {
	Left, Right []int
	Forget      []int
	Result      []int
}

// places returns the indices of the elements of a set in a list.
func places(s bitset.Set, l []int) []int {
	var r []int
	for v := range s.All() {
		r = append(r, slices.Index(l, v))
	}
	return r
}

// Merge returns how the children of a cluster are merged.
func (t *Tree) Merge(at int) (Merge, bool) {
	if !t.has(at) || len(t.clusters[at].Children) == 0 {
		return Merge{}, false
	}
	n := t.clusters[at].Node
	var all bitset.Set
	for _, c := range n.Children {
		all = all.Union(t.clusters[c].Boundary)
	}
	union, ports := all.Elements(), n.Boundary.Elements()
	m := Merge{Left: places(t.clusters[n.Children[0]].Boundary, union)}
	if len(n.Children) > 1 {
		m.Right = places(t.clusters[n.Children[1]].Boundary, union)
	}
	for i, v := range union {
		port := slices.Index(ports, v)
		if port == none {
			m.Forget = append(m.Forget, i)
		}
		m.Result = append(m.Result, port)
	}
	return m, true
}

// present returns the entries of a list for the ports of a mask.
func present(l []int, mask uint16) []int {
	var r []int
	for p, x := range l {
		if p < term.NumPorts && mask>>p&1 == 1 {
			r = append(r, x)
		}
	}
	return r
}

// Lists restricts a merge to present ports: the entries of Left and Right for the ports of both children, what is forgotten of them, and the entries of Result for the rest.
func (s Merge) Lists(first, second uint16) ([]int, []int, []int, []int) {
	left, right := present(s.Left, first), present(s.Right, second)
	occurring := slices.Concat(left, right)
	slices.Sort(occurring)
	occurring = slices.Compact(occurring)
	var forget, result []int
	for _, i := range s.Forget {
		if slices.Contains(occurring, i) {
			forget = append(forget, i)
		}
	}
	for _, i := range occurring {
		if !slices.Contains(s.Forget, i) && i >= 0 && i < len(s.Result) {
			result = append(result, s.Result[i])
		}
	}
	return left, right, forget, result
}

// contents holds the vertices and edges of a graph by their home bags.
type contents struct {
	vertices map[int][]graph.Vertex
	edges    map[int][]graph.Edge
}

func newContents(g *graph.Graph, f *frame.Frame) contents {
	c := contents{map[int][]graph.Vertex{}, map[int][]graph.Edge{}}
	for _, v := range g.Vertices() {
		home, _ := f.VertexHome(v.Id)
		c.vertices[home] = append(c.vertices[home], v)
	}
	for _, x := range g.Edges() {
		home, _ := f.EdgeHome(x.U, x.V)
		c.edges[home] = append(c.edges[home], x)
	}
	return c
}

func (c contents) leafTerm(f *frame.Frame, bag int) term.Term {
	ids := f.Bag(bag).Elements()
	var parts []term.Term
	for _, v := range c.vertices[bag] {
		parts = append(parts, term.Term{Op: term.Vertex, P: slices.Index(ids, v.Id), Id: v.Id, Label: v.Label, Weight: v.Weight})
	}
	for _, x := range c.edges[bag] {
		parts = append(parts, term.Term{Op: term.Edge, P: slices.Index(ids, x.U), Q: slices.Index(ids, x.V), Label: x.Label, Weight: x.Weight})
	}
	var t term.Term
	for i, x := range parts {
		if i == 0 {
			t = x
		} else {
			t = term.Term{Op: term.Join, Args: []term.Term{t, x}}
		}
	}
	return t
}

// renamed returns a term whose ports are renamed, unless they all stay the same, and the mask of its new ports.
func renamed(t term.Term, ports uint16, to []int) (term.Term, uint16) {
	var now uint16
	i, moved := 0, false
	for p := range term.NumPorts {
		if ports>>p&1 == 1 {
			moved = moved || to[i] != p
			now |= 1 << to[i]
			i++
		}
	}
	if !moved {
		return t, now
	}
	return term.Term{Op: term.Rename, To: to, Args: []term.Term{t}}, now
}

// build returns the term of a cluster and its present ports.
func (t *Tree) build(c contents, at int) (term.Term, uint16) {
	n := t.clusters[at]
	if n.Kind == Leaf {
		r := c.leafTerm(t.frame, n.Bag)
		s, _ := term.Check(r)
		return r, s.Ports
	}
	m, _ := t.Merge(at)
	var parts []term.Term
	var ports [2]uint16
	for i, child := range n.Children {
		part, mask := t.build(c, child)
		parts, ports[i] = append(parts, part), mask
	}
	left, right, forget, result := m.Lists(ports[0], ports[1])
	r, all := renamed(parts[0], ports[0], left)
	if len(parts) > 1 {
		second, mask := renamed(parts[1], ports[1], right)
		r = term.Term{Op: term.Join, Args: []term.Term{r, second}}
		all |= mask
	}
	for _, p := range forget {
		r = term.Term{Op: term.Forget, P: p, Args: []term.Term{r}}
		all &^= 1 << p
	}
	return renamed(r, all, result)
}
