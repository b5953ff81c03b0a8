package msotype

import "palmette/kernel"

// The kinds of partial graphs without operations: no element, one vertex, or one edge between bare ports.
const (
	emptyPart = iota
	vertexPart
	edgePart
)

// elementary is such a partial graph, with the free tracks that contain the vertices at its ports and its edge.
type elementary struct {
	kind          int
	p, q          int
	label         uint8
	inP, inQ, inE uint16
}

// The bits of a track's value tell what its set contains: the vertex at p, or the edge; and the vertex at q.
const (
	atP     = 1
	theEdge = 1
	atQ     = 2
)

func (x elementary) ports() uint16 {
	switch x.kind {
	case vertexPart:
		return 1 << x.p
	case edgePart:
		return 1<<x.p | 1<<x.q
	}
	return 0
}

// value returns the value of a free track.
func (x elementary) value(sort, track int) uint8 {
	bit := func(mask uint16) uint8 { return uint8(mask >> track & 1) }
	if sort == kernel.Edges {
		return bit(x.inE) * theEdge
	}
	return bit(x.inP)*atP | bit(x.inQ)*atQ
}

// mask returns the mask of a track with a value.
func (x elementary) mask(sort int, v uint8) uint16 {
	if sort == kernel.Edges {
		return 0
	}
	return uint16(v&atP)<<x.p | uint16(v&atQ>>1)<<x.q
}

// choices returns the number of values that a bound track may have.
func (x elementary) choices(sort int) uint8 {
	switch {
	case x.kind == edgePart && sort == kernel.Vertices:
		return atP + atQ + 1
	case x.kind == edgePart, x.kind == vertexPart && sort == kernel.Vertices:
		return 2
	}
	return 1
}

// evaluated identifies a result: a position with the values of the tracks that it uses.
type evaluated struct {
	position int
	values   [MaxTracks]uint8
}

// evaluation computes the nodes of a partial graph.
type evaluation struct {
	s     *States
	x     elementary
	known map[evaluated]int
}

// node returns the node of a position, unless a limit is exceeded.
func (v evaluation) node(position int, values [MaxTracks]uint8) (int, bool) {
	p := &v.s.positions[position]
	for track := range values {
		if p.uses>>track&1 == 0 {
			values[track] = 0
		}
	}
	key := evaluated{position, values}
	if id, is := v.known[key]; is {
		return id, true
	}
	id, ok := v.compute(p, position, values)
	v.known[key] = id
	return id, ok
}

func (v evaluation) compute(p *position, position int, values [MaxTracks]uint8) (int, bool) {
	switch p.Op {
	case kernel.Not:
		id, ok := v.node(p.operands[0], values)
		return negated(id), ok
	case kernel.And, kernel.Or:
		l := list{}
		for _, o := range p.operands {
			id, ok := v.node(o, values)
			if !ok {
				return 0, false
			}
			l = append(l, id)
		}
		return v.s.connected(position, l), true
	case kernel.Exists:
		track := len(p.sorts) - 1
		c := newMembers(4)
		for choice := range v.x.choices(p.Sort) {
			values[track] = choice
			id, ok := v.node(p.operands[0], values)
			if !ok || !c.add(member{v.x.mask(p.Sort, choice), id}) {
				return 0, false
			}
		}
		return v.s.nodes.set(c), true
	}
	return p.values.nodes[v.atomValue(p, values)], true
}

// atomValue returns the monoid value of an atom.
func (v evaluation) atomValue(p *position, values [MaxTracks]uint8) int {
	a, b := values[p.A], values[p.B]
	if p.Op == kernel.Adjacent || p.Op == kernel.Incident {
		if v.x.kind != edgePart {
			return p.monoid.Identity()
		}
		if p.Op == kernel.Incident {
			return p.monoid.Value(b != 0 && a != 0)
		}
		return p.monoid.Value(a&atP != 0 && b&atQ != 0 || a&atQ != 0 && b&atP != 0)
	}
	kind := vertexPart
	if p.sorts[p.A] == kernel.Edges {
		kind = edgePart
	}
	if v.x.kind != kind {
		return p.monoid.Identity()
	}
	switch p.Op {
	case kernel.Subset:
		return p.monoid.Value(a == 0 || b != 0)
	case kernel.HasLabel:
		return p.monoid.Value(a == 0 || v.x.label>>p.N&1 == 1)
	}
	return p.monoid.Value(a != 0)
}
