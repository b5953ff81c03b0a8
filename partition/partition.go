// Package partition implements disjoint-set partitions with refinement (layer 3).
package partition

import (
	"slices"

	"palmette/api"
)

// MaxElements is the maximum number of elements.
const MaxElements = 4096

// Partition is a partition of the elements 0 to n-1 into blocks.
type Partition struct {
	up []int // a smaller element of the same block, or the element itself if it is the smallest
}

// New returns the partition of n elements into singletons.
func New(n int) (*Partition, api.Errno) {
	if n < 0 || n > MaxElements {
		return nil, api.ErrRange
	}
	up := make([]int, n)
	for i := range n {
		up[i] = i
	}
	return &Partition{up}, api.OK
}

// FromBlocks returns the partition of n elements with the given blocks; other elements form singletons.
func FromBlocks(n int, blocks [][]int) (*Partition, api.Errno) {
	p, e := New(n)
	if e != api.OK {
		return nil, e
	}
	seen := make([]bool, n)
	for _, block := range blocks {
		for _, a := range block {
			if !p.has(a) {
				return nil, api.ErrArgument
			}
			if seen[a] {
				return nil, api.ErrDuplicate
			}
			seen[a] = true
			p.merge(a, block[0])
		}
	}
	return p, api.OK
}

func (p *Partition) has(a int) bool { return p != nil && a >= 0 && a < len(p.up) }

// Len returns the number of elements.
func (p *Partition) Len() int {
	if p == nil {
		return 0
	}
	return len(p.up)
}

// root returns the smallest element of the block of an existing element.
func (p *Partition) root(a int) int {
	var find func(int) int
	find = func(a int) int {
		if p.up[a] != a {
			p.up[a] = find(p.up[a])
		}
		return p.up[a]
	}
	return find(a)
}

func (p *Partition) merge(a, b int) bool {
	a, b = p.root(a), p.root(b)
	p.up[max(a, b)] = min(a, b)
	return a != b
}

// Union merges the blocks of a and b and reports whether they were different.
func (p *Partition) Union(a, b int) (bool, api.Errno) {
	if !p.has(a) || !p.has(b) {
		return false, api.ErrArgument
	}
	return p.merge(a, b), api.OK
}

// Find returns the smallest element of the block of a.
func (p *Partition) Find(a int) (int, api.Errno) {
	if !p.has(a) {
		return 0, api.ErrArgument
	}
	return p.root(a), api.OK
}

// Connected reports whether a and b belong to the same block.
func (p *Partition) Connected(a, b int) bool {
	return p.has(a) && p.has(b) && p.root(a) == p.root(b)
}

// NumBlocks returns the number of blocks.
func (p *Partition) NumBlocks() int {
	n := 0
	for a := range p.Len() {
		if p.up[a] == a {
			n++
		}
	}
	return n
}

// BlockSize returns the number of elements of the block of a.
func (p *Partition) BlockSize(a int) int {
	if !p.has(a) {
		return 0
	}
	n := 0
	for b := range p.Len() {
		if p.root(b) == p.root(a) {
			n++
		}
	}
	return n
}

// Blocks returns all blocks, ordered by their smallest elements.
func (p *Partition) Blocks() [][]int {
	if p == nil {
		return nil
	}
	members := map[int][]int{}
	for a := range p.Len() {
		members[p.root(a)] = append(members[p.root(a)], a)
	}
	l := make([][]int, 0, len(members))
	for a := range p.Len() {
		if block, is := members[a]; is {
			l = append(l, block)
		}
	}
	return l
}

// Split splits each block by the labels of its elements.
func (p *Partition) Split(labels []int) api.Errno {
	if p == nil || len(labels) != p.Len() {
		return api.ErrArgument
	}
	p.up = p.refined(labels)
	return api.OK
}

// refined returns the representatives after splitting each block by labels.
func (p *Partition) refined(labels []int) []int {
	type part struct{ root, label int }
	first := map[part]int{}
	up := make([]int, p.Len())
	for a := range p.Len() {
		key := part{p.root(a), labels[a]}
		if _, is := first[key]; !is {
			first[key] = a
		}
		up[a] = first[key]
	}
	return up
}

func (p *Partition) comparable(o *Partition) bool {
	return p != nil && o != nil && p.Len() == o.Len()
}

func (p *Partition) roots() []int {
	l := make([]int, p.Len())
	for a := range p.Len() {
		l[a] = p.root(a)
	}
	return l
}

// Meet returns the coarsest common refinement of two partitions.
func (p *Partition) Meet(o *Partition) (*Partition, api.Errno) {
	if !p.comparable(o) {
		return nil, api.ErrArgument
	}
	return &Partition{p.refined(o.roots())}, api.OK
}

// Join returns the finest partition that both partitions refine.
func (p *Partition) Join(o *Partition) (*Partition, api.Errno) {
	if !p.comparable(o) {
		return nil, api.ErrArgument
	}
	r := p.Clone()
	for a, root := range o.roots() {
		r.merge(a, root)
	}
	return r, api.OK
}

// Refines reports whether each block is contained in a block of o.
func (p *Partition) Refines(o *Partition) bool {
	if !p.comparable(o) {
		return false
	}
	for a, root := range p.roots() {
		if o.root(a) != o.root(root) {
			return false
		}
	}
	return true
}

// Clone returns an independent copy.
func (p *Partition) Clone() *Partition {
	if p == nil {
		return nil
	}
	return &Partition{slices.Clone(p.up)}
}

// Equal reports whether both partitions are equal.
func (p *Partition) Equal(o *Partition) bool {
	if p == nil || o == nil {
		return p == nil && o == nil
	}
	return slices.Equal(p.roots(), o.roots())
}
