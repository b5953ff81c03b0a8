// Package leasttree finds, for each state of a tree automaton, the least tree that leads to it.
package leasttree

import (
	"cmp"
	"container/heap"

	"palmette/rankedtree"
)

// None stands for an operand that a transition does not have.
const None = -1

// maxSize replaces greater sizes, so that sums do not overflow.
const maxSize = 1 << 40

// Transition leads to the state To by a symbol from up to two operand states.
type Transition struct {
	Symbol, Left, Right, To int
}

// Entry describes the least tree of a state: its size and the last transition of a run on it.
type Entry struct {
	Size int
	Last Transition
	rank int // the position of the tree in the order of all least trees
}

// Table maps the states that some tree leads to.
type Table map[int]Entry

// candidate is a tree that leads to a state. Its subtrees are the least trees of the operands, given by their ranks.
type candidate struct {
	size, symbol, left, right int
	last                      Transition
}

func compare(a, b candidate) int {
	return cmp.Or(cmp.Compare(a.size, b.size), cmp.Compare(a.symbol, b.symbol), cmp.Compare(a.left, b.left), cmp.Compare(a.right, b.right))
}

type queue []candidate

func (q queue) Len() int           { return len(q) }
func (q queue) Less(i, k int) bool { return compare(q[i], q[k]) < 0 }
func (q queue) Swap(i, k int)      { q[i], q[k] = q[k], q[i] }
func (q *queue) Push(x any)        { *q = append(*q, x.(candidate)) }
func (q *queue) Pop() any {
	last := (*q)[len(*q)-1]
	*q = (*q)[:len(*q)-1]
	return last
}

// Find computes the table. The function start emits the transitions without operands; follow is called once for each
// state, in the order of their least trees, and emits the transitions with that state as an operand for which follow
// has been called for all operands. The order is exact among trees that are not larger than a conforming tree may be.
func Find(start func(emit func(Transition)), follow func(state int, emit func(Transition))) Table {
	table := Table{}
	var q queue
	emit := func(t Transition) {
		if _, done := table[t.To]; done {
			return
		}
		c := candidate{1, t.Symbol, None, None, t}
		for _, x := range []struct {
			operand int
			rank    *int
		}{{t.Left, &c.left}, {t.Right, &c.right}} {
			if x.operand != None {
				e := table[x.operand]
				*x.rank = e.rank
				c.size = min(c.size+e.Size, maxSize)
			}
		}
		heap.Push(&q, c)
	}
	start(emit)
	rank := 0
	var before candidate
growth:
	for q.Len() > 0 {
		c := heap.Pop(&q).(candidate)
		if _, done := table[c.last.To]; done {
			continue growth
		}
		if compare(before, c) != 0 {
			rank++
		}
		before = c
		table[c.last.To] = Entry{c.size, c.last, rank}
		follow(c.last.To, emit)
	}
	return table
}

// Less reports whether the least tree of a state comes before that of another one.
func (t Table) Less(a, b int) bool { return t[a].rank < t[b].rank }

// Tree returns the least tree of a state, which must be in the table and have a reasonable size.
func (t Table) Tree(state int) rankedtree.Tree {
	last := t[state].Last
	r := rankedtree.Tree{Symbol: last.Symbol}
	for _, operand := range []int{last.Left, last.Right} {
		if operand != None {
			r.Children = append(r.Children, t.Tree(operand))
		}
	}
	return r
}

// Representable returns the least tree of a state if it is one that rankedtree.Valid permits in size and depth.
func (t Table) Representable(state int) (rankedtree.Tree, bool) {
	e, is := t[state]
	if !is || e.Size > rankedtree.MaxNodes {
		return rankedtree.Tree{}, false
	}
	r := t.Tree(state)
	if rankedtree.Depth(r) > rankedtree.MaxDepth {
		return rankedtree.Tree{}, false
	}
	return r, true
}

// Follow returns functions for Find that enumerate the transitions of a deterministic automaton with the given tables.
func Follow(ranks rankedtree.Alphabet, states int, tables [][]int) (start func(func(Transition)), follow func(int, func(Transition))) {
	var known []int
	start = func(emit func(Transition)) {
		for symbol, rank := range ranks {
			if rank == 0 {
				emit(Transition{symbol, None, None, tables[symbol][0]})
			}
		}
	}
	follow = func(s int, emit func(Transition)) {
		known = append(known, s)
		for symbol, rank := range ranks {
			switch rank {
			case 1:
				emit(Transition{symbol, s, None, tables[symbol][s]})
			case 2:
				for _, o := range known {
					emit(Transition{symbol, s, o, tables[symbol][s*states+o]})
					emit(Transition{symbol, o, s, tables[symbol][o*states+s]})
				}
			}
		}
	}
	return start, follow
}
