// Package clustertable computes the tables of the clusters of layer 46 from the contents of bags and from each other.
package clustertable

import (
	"slices"

	"palmette/api"
	"palmette/frame"
	"palmette/graph"
	"palmette/term"
	"palmette/toptree"
	"palmette/weighted"
)

// Content is what the leaf term of a bag consists of, with the ports of the bag's elements.
type Content struct {
	Ids      []int // the elements of the bag; the port of an element is its index
	Vertices []graph.Vertex
	Edges    []graph.Edge
}

// Contents returns the contents of all bags of a frame that a graph fits.
func Contents(g *graph.Graph, f *frame.Frame) []Content {
	l := make([]Content, f.Len())
	for b := range l {
		l[b].Ids = f.Bag(b).Elements()
	}
	for _, v := range g.Vertices() {
		home, _ := f.VertexHome(v.Id)
		l[home].Vertices = append(l[home].Vertices, v)
	}
	for _, x := range g.Edges() {
		home, _ := f.EdgeHome(x.U, x.V)
		l[home].Edges = append(l[home].Edges, x)
	}
	return l
}

// Table is the table of a cluster with the mask of its present ports.
type Table[T any] struct {
	Sums  weighted.Table[T]
	Ports uint16
}

// Leaf returns the table of the leaf term of a bag.
func Leaf[T any](m *weighted.Evaluator[T], c Content) (Table[T], api.Errno) {
	sums, e := m.Empty()
	r := Table[T]{Sums: sums}
	first := true
	add := func(part weighted.Table[T], e api.Errno, ports ...int) api.Errno {
		if e == api.OK && !first {
			part, e = m.Join(r.Sums, part)
		}
		first = false
		r.Sums = part
		for _, p := range ports {
			r.Ports |= 1 << p
		}
		return e
	}
	for _, v := range c.Vertices {
		p := slices.Index(c.Ids, v.Id)
		part, e := m.Vertex(p, v)
		if e := add(part, e, p); e != api.OK {
			return Table[T]{}, e
		}
	}
	for _, x := range c.Edges {
		p, q := slices.Index(c.Ids, x.U), slices.Index(c.Ids, x.V)
		part, e := m.Edge(p, q, x)
		if e := add(part, e, p, q); e != api.OK {
			return Table[T]{}, e
		}
	}
	return r, e
}

// renamed returns a table whose ports are renamed, unless they all stay the same.
func renamed[T any](m *weighted.Evaluator[T], t Table[T], to []int) (Table[T], api.Errno) {
	var ports uint16
	i, moved := 0, false
	for p := range term.NumPorts {
		if t.Ports>>p&1 == 1 {
			moved = moved || to[i] != p
			ports |= 1 << to[i]
			i++
		}
	}
	if !moved {
		return t, api.OK
	}
	sums, e := m.Rename(t.Sums, to)
	return Table[T]{sums, ports}, e
}

// Combine returns the table of a cluster, given those of its children.
func Combine[T any](m *weighted.Evaluator[T], s toptree.Merge, parts []Table[T]) (Table[T], api.Errno) {
	var second uint16
	if len(parts) > 1 {
		second = parts[1].Ports
	}
	left, right, forget, result := s.Lists(parts[0].Ports, second)
	r, e := renamed(m, parts[0], left)
	if e != api.OK {
		return Table[T]{}, e
	}
	if len(parts) > 1 {
		o, e := renamed(m, parts[1], right)
		if e != api.OK {
			return Table[T]{}, e
		}
		r.Ports |= o.Ports
		if r.Sums, e = m.Join(r.Sums, o.Sums); e != api.OK {
			return Table[T]{}, e
		}
	}
	for _, p := range forget {
		r.Ports &^= 1 << p
		if r.Sums, e = m.Forget(r.Sums, p); e != api.OK {
			return Table[T]{}, e
		}
	}
	return renamed(m, r, result)
}
