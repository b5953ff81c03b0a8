package determinize

import (
	"palmette/api"
	"palmette/bitset"
	"palmette/dta"
	"palmette/rankedtree"
)

// possible is a tree with the states of all trees that are relabeled to it.
type possible struct {
	states   bitset.Set
	symbols  []int // those that are relabeled to the root symbol, in increasing order
	children []possible
}

// search looks for trees of an automaton that are relabeled to a tree.
type search struct {
	a        dta.Automaton
	preimage map[int][]int
}

// results calls take for the results of a symbol from possible states of the children, until it returns false.
func (x *search) results(p *possible, symbol int, take func(operands []int, result int) bool) {
	n := len(x.a.Accepting)
	table := x.a.Transitions[symbol]
	switch len(p.children) {
	case 0:
		take(nil, table[0])
	case 1:
		for s := range p.children[0].states.All() {
			if !take([]int{s}, table[s]) {
				return
			}
		}
	case 2:
		for s := range p.children[0].states.All() {
			for o := range p.children[1].states.All() {
				if !take([]int{s, o}, table[s*n+o]) {
					return
				}
			}
		}
	}
}

func (x *search) annotate(t rankedtree.Tree) possible {
	p := possible{symbols: x.preimage[t.Symbol]}
	for _, c := range t.Children {
		p.children = append(p.children, x.annotate(c))
	}
	for _, symbol := range p.symbols {
		x.results(&p, symbol, func(_ []int, result int) bool {
			p.states = p.states.With(result)
			return true
		})
	}
	return p
}

// least returns the least tree with an allowed state, and that state; there must be one.
func (x *search) least(p *possible, allowed bitset.Set) (rankedtree.Tree, int) {
	for _, symbol := range p.symbols {
		found := false
		x.results(p, symbol, func(_ []int, result int) bool {
			found = allowed.Has(result)
			return !found
		})
		if found {
			return x.leastWithRoot(p, symbol, allowed)
		}
	}
	return rankedtree.Tree{}, 0
}

// leastWithRoot determines the children from the left: an earlier one decides before a later one.
func (x *search) leastWithRoot(p *possible, symbol int, allowed bitset.Set) (rankedtree.Tree, int) {
	t := rankedtree.Tree{Symbol: symbol}
	var fixed []int
	for i := range p.children {
		var open bitset.Set
		x.results(p, symbol, func(operands []int, result int) bool {
			if allowed.Has(result) && (len(fixed) == 0 || operands[0] == fixed[0]) {
				open = open.With(operands[i])
			}
			return true
		})
		child, s := x.least(&p.children[i], open)
		t.Children = append(t.Children, child)
		fixed = append(fixed, s)
	}
	index := 0
	for _, s := range fixed {
		index = index*len(x.a.Accepting) + s
	}
	return t, x.a.Transitions[symbol][index]
}

// Witness returns the least accepted tree that is relabeled to a tree.
func Witness(a dta.Automaton, to []int, ranks rankedtree.Alphabet, t rankedtree.Tree) (rankedtree.Tree, bool, api.Errno) {
	if e := checkAlphabets(a, ranks); e != api.OK {
		return rankedtree.Tree{}, false, e
	}
	if e := checkMap(to, a.Alphabet, ranks); e != api.OK {
		return rankedtree.Tree{}, false, e
	}
	if e := rankedtree.Valid(ranks, t); e != api.OK {
		return rankedtree.Tree{}, false, e
	}
	x := &search{a, map[int][]int{}}
	for s, image := range to {
		x.preimage[image] = append(x.preimage[image], s)
	}
	var allowed bitset.Set
	for s, is := range a.Accepting {
		if is {
			allowed = allowed.With(s)
		}
	}
	p := x.annotate(t)
	if p.states.Intersect(allowed).IsEmpty() {
		return rankedtree.Tree{}, false, api.OK
	}
	w, _ := x.least(&p, allowed)
	return w, true, api.OK
}
