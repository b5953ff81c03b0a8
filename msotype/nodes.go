package msotype

import (
	"cmp"
	"slices"
)

// Nodes are interned: equal nodes have equal numbers. The numbers of the two decided nodes are fixed.
const (
	dead = iota
	universal
	firstOther
)

// maxMemo bounds the number of remembered results; beyond it they are forgotten.
const maxMemo = 1 << 21

// node is a node that is neither dead nor universal.
type node interface {
	// appendKey appends a text that differs for different nodes.
	appendKey(b []byte) []byte
}

// value is the monoid value of an atom.
type value int

// list contains the numbers of the nodes of all operands.
type list []int

// member is a mask of the bound track with the number of the operand's node.
type member struct {
	mask uint16
	node int
}

// set contains the members of an existential quantifier in a fixed order.
type set []member

// appendNumber appends a number of at most 32 bits.
func appendNumber(b []byte, n int) []byte {
	return append(b, byte(n), byte(n>>8), byte(n>>16), byte(n>>24))
}

func (v value) appendKey(b []byte) []byte { return appendNumber(append(b, 'v'), int(v)) }

func (l list) appendKey(b []byte) []byte {
	b = append(b, 'l')
	for _, n := range l {
		b = appendNumber(b, n)
	}
	return b
}

func (s set) appendKey(b []byte) []byte {
	b = slices.Grow(append(b, 's'), 8*len(s))
	for _, m := range s {
		b = appendNumber(appendNumber(b, int(m.mask)), m.node)
	}
	return b
}

// joined identifies a join of two nodes; moved identifies a node whose ports are renamed.
type joined struct {
	position, a, b int32
	common         uint16
}

type movedNode struct{ position, node int32 }

// nodes are the known nodes, with remembered results of operations on them.
type nodes struct {
	list  []node
	ids   map[string]int
	joins map[joined]int32
	moves map[moveKey]map[movedNode]int32
	memos int
}

// exceeded is the remembered result of a join that exceeds a limit.
const exceeded = -1

func newNodes() *nodes {
	return &nodes{list: make([]node, firstOther), ids: map[string]int{}, joins: map[joined]int32{}, moves: map[moveKey]map[movedNode]int32{}}
}

func (n *nodes) intern(x node) int {
	key := string(x.appendKey(nil))
	if id, is := n.ids[key]; is {
		return id
	}
	n.ids[key] = len(n.list)
	n.list = append(n.list, x)
	return len(n.list) - 1
}

// remembering counts one more remembered result.
func (n *nodes) remembering() {
	if n.memos++; n.memos > maxMemo {
		clear(n.joins)
		clear(n.moves)
		n.memos = 0
	}
}

// movesFor returns the remembered results of a renaming.
func (n *nodes) movesFor(key moveKey) map[movedNode]int32 {
	m := n.moves[key]
	if m == nil {
		m = map[movedNode]int32{}
		n.moves[key] = m
	}
	return m
}

// members collects the members of a set that are not dead.
type members struct {
	found map[member]bool
	any   bool // some member is universal
}

// newMembers expects about a number of members.
func newMembers(about int) *members { return &members{found: make(map[member]bool, about)} }

// add adds a member and reports whether the limit still holds.
func (c *members) add(m member) bool {
	if m.node == dead {
		return true
	}
	c.any = c.any || m.node == universal
	c.found[m] = true
	return len(c.found) <= MaxMembers
}

// node returns the node of the collected members.
func (n *nodes) set(c *members) int {
	if len(c.found) == 0 {
		return dead
	}
	if c.any {
		return universal
	}
	s := make(set, 0, len(c.found))
	for m := range c.found {
		s = append(s, m)
	}
	slices.SortFunc(s, func(a, b member) int { return cmp.Or(cmp.Compare(a.mask, b.mask), cmp.Compare(a.node, b.node)) })
	return n.intern(s)
}
