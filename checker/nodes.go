package checker

import (
	"cmp"
	"slices"
	"strconv"

	"palmette/kernel"
	"palmette/monoid"
)

// maxMembers is the largest number of members of a set.
const maxMembers = 1 << 14

// node is what a formula in a partial graph can still become: decided, the value of an atom, the nodes of the operands
// of a connective, or the members of a quantifier. Nodes with equal texts at equal places are the same.
type node struct {
	id       int
	text     string
	value    int
	operands []*node
	members  []member
}

// member is a mask of the bound track with a node of the quantifier's operand.
type member struct {
	mask uint16
	node *node
}

// place is a node of the kernel; its number in preorder identifies it.
type place struct {
	kernel.Node
	operands []int
	sorts    []int  // of the tracks in scope, with the one that is bound here
	uses     uint16 // the tracks that occur in atoms below
	monoid   monoid.Monoid
}

// formula holds the places of a kernel and the nodes that have occurred at them.
type formula struct {
	places    []place
	dead      *node
	universal *node
	known     []map[string]*node // by place and text
	count     int
	joins     map[joinKey]*node
	exceeded  bool // some set has too many members
}

type joinKey struct {
	place, a, b int
	common      uint16
}

func newFormula(k kernel.Kernel) *formula {
	f := &formula{dead: &node{id: 0, text: "!"}, universal: &node{id: 1, text: "."}, count: 2, joins: map[joinKey]*node{}}
	var visit func(n kernel.Node, sorts []int) int
	visit = func(n kernel.Node, sorts []int) int {
		at := len(f.places)
		if n.Op == kernel.Exists {
			sorts = append(slices.Clone(sorts), n.Sort)
		}
		f.places = append(f.places, place{Node: n, sorts: sorts, monoid: summary(n)})
		f.known = append(f.known, map[string]*node{})
		if n.Op < kernel.Not {
			f.places[at].uses = 1<<n.A | 1<<n.B
		}
		for _, x := range n.L {
			i := visit(x, sorts)
			f.places[at].operands = append(f.places[at].operands, i)
			f.places[at].uses |= f.places[i].uses
		}
		return at
	}
	visit(k.Root, k.Sorts)
	return f
}

// summary returns the monoid that summarizes an atom.
func summary(n kernel.Node) monoid.Monoid {
	switch n.Op {
	case kernel.Subset, kernel.HasLabel:
		return monoid.Monoid{Kind: monoid.All}
	case kernel.Singleton:
		return monoid.Monoid{Kind: monoid.Exactly, N: 1}
	case kernel.SizeMod:
		return monoid.Monoid{Kind: monoid.Modulo, N: n.N, M: n.M}
	}
	return monoid.Monoid{Kind: monoid.Any}
}

// unique returns the only node with a text at a place.
func (f *formula) unique(at int, n node) *node {
	if old, is := f.known[at][n.text]; is {
		return old
	}
	n.id = f.count
	f.count++
	f.known[at][n.text] = &n
	return &n
}

func (f *formula) decided(n *node) bool { return n == f.dead || n == f.universal }

// ofValue returns the node of an atom.
func (f *formula) ofValue(at, v int) *node {
	m := f.places[at].monoid
	switch {
	case m.Dead(v):
		return f.dead
	case m.Universal(v):
		return f.universal
	}
	return f.unique(at, node{text: strconv.Itoa(v), value: v})
}

// ofOperands returns the node of a connective.
func (f *formula) ofOperands(at int, l []*node) *node {
	is := func(n *node) func(*node) bool { return func(o *node) bool { return o == n } }
	not := func(n *node) func(*node) bool { return func(o *node) bool { return o != n } }
	brackets := "()"
	switch f.places[at].Op {
	case kernel.Not:
		switch l[0] {
		case f.dead:
			return f.universal
		case f.universal:
			return f.dead
		}
		return f.unique(at, node{text: "-" + l[0].text, operands: l})
	case kernel.And:
		if slices.ContainsFunc(l, is(f.dead)) {
			return f.dead
		}
		if !slices.ContainsFunc(l, not(f.universal)) {
			return f.universal
		}
	case kernel.Or:
		brackets = "[]"
		if slices.ContainsFunc(l, is(f.universal)) {
			return f.universal
		}
		if !slices.ContainsFunc(l, not(f.dead)) {
			return f.dead
		}
	}
	b := []byte{brackets[0]}
	for i, n := range l {
		if i > 0 {
			b = append(b, ' ')
		}
		b = append(b, n.text...)
	}
	return f.unique(at, node{text: string(append(b, brackets[1])), operands: l})
}

// collector collects the members of a set that are not dead, without duplicates.
type collector struct {
	f       *formula
	seen    map[memberKey]bool
	members []member
	proven  bool
}

type memberKey struct {
	mask uint16
	id   int
}

func (f *formula) collect() *collector { return &collector{f: f, seen: map[memberKey]bool{}} }

func (c *collector) add(mask uint16, n *node) {
	key := memberKey{mask, n.id}
	if n == c.f.dead || c.seen[key] {
		return
	}
	c.seen[key] = true
	c.members = append(c.members, member{mask, n})
	c.proven = c.proven || n == c.f.universal
	c.f.exceeded = c.f.exceeded || len(c.members) > maxMembers
}

// node returns the node of a quantifier at a place.
func (c *collector) node(at int) *node {
	switch {
	case len(c.members) == 0:
		return c.f.dead
	case c.proven:
		return c.f.universal
	}
	slices.SortFunc(c.members, func(a, b member) int {
		return cmp.Or(cmp.Compare(a.mask, b.mask), cmp.Compare(a.node.text, b.node.text))
	})
	b := []byte{'{'}
	for i, m := range c.members {
		if i > 0 {
			b = append(b, ' ')
		}
		b = append(strconv.AppendInt(b, int64(m.mask), 10), ':')
		b = append(b, m.node.text...)
	}
	return c.f.unique(at, node{text: string(append(b, '}')), members: c.members})
}

// join returns the node of the union of two parts. If a set has too many members, the result has no meaning.
func (f *formula) join(at int, a, b *node, common uint16) *node {
	switch {
	case a == f.dead || b == f.dead:
		return f.dead
	case a == f.universal || b == f.universal || f.exceeded:
		return f.universal
	}
	key := joinKey{at, a.id, b.id, common}
	if n, is := f.joins[key]; is {
		return n
	}
	p := f.places[at]
	var r *node
	switch {
	case p.Op < kernel.Not:
		r = f.ofValue(at, p.monoid.Add(a.value, b.value))
	case p.Op == kernel.Exists:
		r = f.joinMembers(p.operands[0], a.members, b.members, common).node(at)
	default:
		r = f.ofOperands(at, f.joinAll(p, a.operands, b.operands, common))
	}
	f.joins[key] = r
	return r
}

// joinMembers joins the members of two sets whose masks agree on the common ports.
func (f *formula) joinMembers(operand int, a, b []member, common uint16) *collector {
	agreeing := map[uint16][]member{}
	for _, y := range b {
		agreeing[y.mask&common] = append(agreeing[y.mask&common], y)
	}
	c := f.collect()
	for _, x := range a {
		for _, y := range agreeing[x.mask&common] {
			if !f.exceeded {
				c.add(x.mask|y.mask, f.join(operand, x.node, y.node, common))
			}
		}
	}
	return c
}

// joinAll joins the nodes of all operands of a connective. Those of a negation are never decided.
func (f *formula) joinAll(p place, a, b []*node, common uint16) []*node {
	l := make([]*node, len(a))
	for i := range a {
		l[i] = f.join(p.operands[i], a[i], b[i], common)
	}
	return l
}

// move returns a node whose masks are changed by a function; done holds the results of the same function.
func (f *formula) move(at int, n *node, change func(mask uint16) uint16, done map[int]*node) *node {
	p := f.places[at]
	if f.decided(n) || p.Op < kernel.Not {
		return n
	}
	if r, is := done[n.id]; is {
		return r
	}
	var r *node
	if p.Op == kernel.Exists {
		c := f.collect()
		for _, m := range n.members {
			c.add(change(m.mask), f.move(p.operands[0], m.node, change, done))
		}
		r = c.node(at)
	} else {
		var l []*node
		for i, o := range n.operands {
			l = append(l, f.move(p.operands[i], o, change, done))
		}
		r = f.ofOperands(at, l)
	}
	done[n.id] = r
	return r
}

// accepts reports whether a formula with this node holds in the complete graph.
func (f *formula) accepts(at int, n *node) bool {
	p := f.places[at]
	if f.decided(n) {
		return n == f.universal
	}
	holds := func(i int) bool { return f.accepts(p.operands[i], n.operands[i]) }
	switch p.Op {
	case kernel.Not:
		return !holds(0)
	case kernel.And, kernel.Or:
		for i := range n.operands {
			if holds(i) == (p.Op == kernel.Or) {
				return p.Op == kernel.Or
			}
		}
		return p.Op == kernel.And
	case kernel.Exists:
		return slices.ContainsFunc(n.members, func(m member) bool { return f.accepts(p.operands[0], m.node) })
	}
	return p.monoid.Accepts(n.value)
}
