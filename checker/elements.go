package checker

import (
	"palmette/kernel"
	"palmette/term"
)

// part is a partial graph with at most one element: nothing, a vertex at port p, or an edge between the ports p and q.
type part struct {
	op    int
	p, q  int
	label uint8
}

// held tells what a set contains: the vertex at p, the vertex at q, or the edge.
type held struct{ p, q, edge bool }

// choice gives each track in scope what its set contains.
type choice [kernel.MaxTracks]held

// options returns what sets of a sort may contain.
func (x part) options(sort int) []held {
	switch {
	case x.op == term.Vertex && sort == kernel.Vertices:
		return []held{{}, {p: true}}
	case x.op == term.Edge && sort == kernel.Vertices:
		return []held{{}, {p: true}, {q: true}, {p: true, q: true}}
	case x.op == term.Edge:
		return []held{{}, {edge: true}}
	}
	return []held{{}}
}

// mask returns the ports whose vertices a set contains.
func (x part) mask(h held) uint16 {
	var m uint16
	if h.p {
		m |= 1 << x.p
	}
	if h.q {
		m |= 1 << x.q
	}
	return m
}

// state returns the state of the partial graph for a choice of the free tracks.
func (x part) state(v *verifier, c choice) state {
	s := state{node: x.node(v.f, 0, c, map[evaluated]*node{})}
	switch x.op {
	case term.Vertex:
		s.ports = 1 << x.p
	case term.Edge:
		s.ports = 1<<x.p | 1<<x.q
	}
	for track := range v.sorts {
		s.masks[track] = x.mask(c[track])
	}
	return s
}

// evaluated identifies a place with a choice.
type evaluated struct {
	at     int
	choice choice
}

// node returns the node of a place for a choice of all tracks in scope.
func (x part) node(f *formula, at int, c choice, done map[evaluated]*node) *node {
	p := f.places[at]
	if p.Op < kernel.Not {
		return f.ofValue(at, x.atom(p, c))
	}
	for track := range c {
		if p.uses>>track&1 == 0 {
			c[track] = held{}
		}
	}
	key := evaluated{at, c}
	if n, is := done[key]; is {
		return n
	}
	var n *node
	if p.Op == kernel.Exists {
		set := f.collect()
		track := len(p.sorts) - 1
		for _, h := range x.options(p.Sort) {
			c[track] = h
			set.add(x.mask(h), x.node(f, p.operands[0], c, done))
		}
		n = set.node(at)
	} else {
		var l []*node
		for _, o := range p.operands {
			l = append(l, x.node(f, o, c, done))
		}
		n = f.ofOperands(at, l)
	}
	done[key] = n
	return n
}

// atom returns the monoid value of an atom: that of the only element, if it is one that the atom summarizes.
func (x part) atom(p place, c choice) int {
	a, b := c[p.A], c[p.B]
	element := term.Vertex
	in, within := a.p, b.p
	if p.Op == kernel.Adjacent || p.Op == kernel.Incident || p.sorts[p.A] == kernel.Edges {
		element = term.Edge
		in, within = a.edge, b.edge
	}
	if x.op != element {
		return p.monoid.Identity()
	}
	switch p.Op {
	case kernel.Subset:
		return p.monoid.Value(!in || within)
	case kernel.HasLabel:
		return p.monoid.Value(!in || x.label>>p.N&1 == 1)
	case kernel.Adjacent:
		return p.monoid.Value(a.p && b.q || a.q && b.p)
	case kernel.Incident:
		return p.monoid.Value(b.edge && (a.p || a.q))
	}
	return p.monoid.Value(in)
}

// element returns the table of a term without operands.
func (v *verifier) element(t term.Term, _ []table) *builder {
	x := part{t.Op, t.P, t.Q, t.Label}
	b := v.build()
	var choose func(track int, c choice, weight value)
	choose = func(track int, c choice, weight value) {
		if track == len(v.sorts) {
			b.add(x.state(v, c), weight)
			return
		}
		for _, h := range x.options(v.sorts[track]) {
			c[track] = h
			w := weight
			if t.Op == term.Vertex && h.p || h.edge {
				w = v.a.mul(weight, v.a.cost(t.Weight))
			}
			choose(track+1, c, w)
		}
	}
	choose(0, choice{}, v.a.one)
	return b
}
