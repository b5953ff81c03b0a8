package msotype

import (
	"slices"
	"strconv"
	"strings"

	"palmette/kernel"
	"palmette/monoid"
)

// position is a node of the kernel; its number in preorder identifies it.
type position struct {
	kernel.Node
	operands []int
	sorts    []int  // of the tracks in scope; for a quantifier including the bound one
	uses     uint16 // the tracks that occur in atoms below
	monoid   monoid.Monoid
	values   *values
}

// values holds the nodes of the values of a monoid, and of the sums of any two values, one row for each first value.
type values struct{ nodes, sums []int }

func isAtom(op int) bool { return op < kernel.Not }

func monoidOf(n kernel.Node) monoid.Monoid {
	switch n.Op {
	case kernel.Adjacent, kernel.Incident:
		return monoid.Monoid{Kind: monoid.Any}
	case kernel.Singleton:
		return monoid.Monoid{Kind: monoid.Exactly, N: 1}
	case kernel.SizeMod:
		return monoid.Monoid{Kind: monoid.Modulo, N: n.N, M: n.M}
	}
	return monoid.Monoid{Kind: monoid.All}
}

// flatten returns the positions of a kernel in preorder.
func flatten(k kernel.Kernel) []position {
	var l []position
	var visit func(n kernel.Node, sorts []int) int
	visit = func(n kernel.Node, sorts []int) int {
		at := len(l)
		if n.Op == kernel.Exists {
			sorts = append(slices.Clone(sorts), n.Sort)
		}
		p := position{Node: n, sorts: sorts, monoid: monoidOf(n)}
		l = append(l, p)
		if isAtom(n.Op) {
			p.uses = 1<<n.A | 1<<n.B
		}
		for _, x := range n.L {
			i := visit(x, sorts)
			p.operands = append(p.operands, i)
			p.uses |= l[i].uses
		}
		l[at] = p
		return at
	}
	visit(k.Root, k.Sorts)
	return l
}

func negated(id int) int {
	switch id {
	case dead:
		return universal
	case universal:
		return dead
	}
	return id
}

// tabulate gives each atom the nodes of its values, which atoms with equal monoids share.
func (s *States) tabulate() {
	known := map[monoid.Monoid]*values{}
	for i := range s.positions {
		p := &s.positions[i]
		if !isAtom(p.Op) {
			continue
		}
		if known[p.monoid] == nil {
			known[p.monoid] = s.valuesOf(p.monoid)
		}
		p.values = known[p.monoid]
	}
}

func (s *States) valuesOf(m monoid.Monoid) *values {
	var t values
	size := m.Size()
	for v := range size {
		node := dead
		switch {
		case m.Universal(v):
			node = universal
		case !m.Dead(v):
			node = s.nodes.intern(value(v))
		}
		t.nodes = append(t.nodes, node)
	}
	for pair := range size * size {
		t.sums = append(t.sums, t.nodes[m.Add(pair/size, pair%size)])
	}
	return &t
}

// joinValues returns the node of the sum of two values of an atom.
func (s *States) joinValues(p *position, a, b int) int {
	x, _ := s.nodes.list[a].(value)
	y, _ := s.nodes.list[b].(value)
	return p.values.sums[int(x)*len(p.values.nodes)+int(y)]
}

// connected returns the node of And or Or, given those of all operands.
func (s *States) connected(position int, l list) int {
	deciding := dead
	if s.positions[position].Op == kernel.Or {
		deciding = universal
	}
	if slices.Contains(l, deciding) {
		return deciding
	}
	if !slices.ContainsFunc(l, func(id int) bool { return id != negated(deciding) }) {
		return negated(deciding)
	}
	return s.nodes.intern(l)
}

// join returns the node of the union of two parts with common ports, unless a limit is exceeded.
func (s *States) join(position, a, b int, common uint16) (int, bool) {
	p := &s.positions[position]
	if p.Op == kernel.Not {
		r, ok := s.join(p.operands[0], negated(a), negated(b), common)
		return negated(r), ok
	}
	if a == dead || b == dead {
		return dead, true
	}
	if a == universal || b == universal {
		return universal, true
	}
	// The values of atoms have tables; only the joins of other nodes are worth remembering.
	if isAtom(p.Op) {
		return s.joinValues(p, a, b), true
	}
	key := joined{int32(position), int32(min(a, b)), int32(max(a, b)), common}
	if r, known := s.nodes.joins[key]; known {
		return int(max(r, 0)), r != exceeded
	}
	r, ok := s.joinParts(p, position, a, b, common)
	s.nodes.remembering()
	s.nodes.joins[key] = int32(r)
	if !ok {
		s.nodes.joins[key] = exceeded
	}
	return r, ok
}

// joinParts joins lists or sets.
func (s *States) joinParts(p *position, position, a, b int, common uint16) (int, bool) {
	other := s.nodes.list[b]
	switch x := s.nodes.list[a].(type) {
	case list:
		y, _ := other.(list)
		l := make(list, len(x))
		for i := range x {
			r, ok := s.join(p.operands[i], x[i], y[i], common)
			if !ok {
				return 0, false
			}
			l[i] = r
		}
		return s.connected(position, l), true
	case set:
		y, _ := other.(set)
		return s.joinSets(p.operands[0], x, y, common)
	}
	return dead, true
}

func (s *States) joinSets(operand int, x, y set, common uint16) (int, bool) {
	agreeing := map[uint16]set{}
	for _, m := range y {
		agreeing[m.mask&common] = append(agreeing[m.mask&common], m)
	}
	c := newMembers(len(x))
	for _, m := range x {
		for _, o := range agreeing[m.mask&common] {
			r, ok := s.join(operand, m.node, o.node, common)
			if !ok || !c.add(member{m.mask | o.mask, r}) {
				return 0, false
			}
		}
	}
	return s.nodes.set(c), true
}

// move returns a node with its ports renamed, unless a limit is exceeded; known holds results of the same renaming.
func (s *States) move(position, a int, known map[movedNode]int32, move func(uint16) uint16) (int, bool) {
	p := &s.positions[position]
	if p.Op == kernel.Not {
		r, ok := s.move(p.operands[0], negated(a), known, move)
		return negated(r), ok
	}
	key := movedNode{int32(position), int32(a)}
	if r, is := known[key]; is {
		return int(r), true
	}
	r := a
	switch x := s.nodes.list[a].(type) {
	case list:
		l := make(list, len(x))
		for i := range x {
			n, ok := s.move(p.operands[i], x[i], known, move)
			if !ok {
				return 0, false
			}
			l[i] = n
		}
		r = s.connected(position, l)
	case set:
		c := newMembers(len(x))
		for _, m := range x {
			n, ok := s.move(p.operands[0], m.node, known, move)
			if !ok || !c.add(member{move(m.mask), n}) {
				return 0, false
			}
		}
		r = s.nodes.set(c)
	}
	s.nodes.remembering()
	known[key] = int32(r)
	return r, true
}

// accepts reports whether a formula with this node holds in the complete graph.
func (s *States) accepts(position, a int) bool {
	p := &s.positions[position]
	if a == dead || a == universal {
		return a == universal
	}
	if p.Op == kernel.Not {
		return !s.accepts(p.operands[0], a)
	}
	switch x := s.nodes.list[a].(type) {
	case value:
		return p.monoid.Accepts(int(x))
	case list:
		for i, n := range x {
			if holds := s.accepts(p.operands[i], n); holds == (p.Op == kernel.Or) {
				return holds
			}
		}
		return p.Op == kernel.And
	case set:
		return slices.ContainsFunc(x, func(m member) bool { return s.accepts(p.operands[0], m.node) })
	}
	return false
}

// Text returns the canonical text of a state.
func (s *States) Text(a int) string {
	x, is := s.state(a)
	if !is {
		return ""
	}
	words := []string{strconv.Itoa(int(x.ports))}
	for track := range s.kernel.Sorts {
		words = append(words, strconv.Itoa(int(x.masks[track])))
	}
	return strings.Join(append(words, s.text(0, x.root)), " ")
}

// text returns the text of a node.
func (s *States) text(position, a int) string {
	p := &s.positions[position]
	switch {
	case a == dead:
		return "!"
	case a == universal:
		return "."
	case p.Op == kernel.Not:
		return "-" + s.text(p.operands[0], a)
	}
	var words []string
	brackets := "{}"
	switch x := s.nodes.list[a].(type) {
	case value:
		return strconv.Itoa(int(x))
	case list:
		brackets = "()"
		if p.Op == kernel.Or {
			brackets = "[]"
		}
		for i, n := range x {
			words = append(words, s.text(p.operands[i], n))
		}
	case set:
		words = s.memberTexts(p.operands[0], x)
	}
	return brackets[:1] + strings.Join(words, " ") + brackets[1:]
}

// memberTexts returns the texts of members, ordered by mask and then by the text of the node.
func (s *States) memberTexts(operand int, x set) []string {
	byMask := map[uint16][]string{}
	var masks []uint16
	for _, m := range x {
		if len(byMask[m.mask]) == 0 {
			masks = append(masks, m.mask)
		}
		byMask[m.mask] = append(byMask[m.mask], s.text(operand, m.node))
	}
	slices.Sort(masks)
	var words []string
	for _, mask := range masks {
		slices.Sort(byMask[mask])
		for _, text := range byMask[mask] {
			words = append(words, strconv.Itoa(int(mask))+":"+text)
		}
	}
	return words
}
