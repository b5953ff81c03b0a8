// Package treecount counts the trees that a deterministic automaton accepts.
package treecount

import (
	"palmette/bignat"
	"palmette/dta"
)

// MaxSize is the largest size of trees that are counted.
const MaxSize = 64

// countTable holds the number of trees of each size that lead to each state.
type countTable [][]bignat.Nat

// pairs returns the number of pairs of trees of a total size that lead to two states.
func (c countTable) pairs(size, p, q int) bignat.Nat {
	var sum bignat.Nat
	for left := 1; left < size; left++ {
		if !c[left][p].IsZero() && !c[size-left][q].IsZero() {
			sum = sum.Add(c[left][p].Mul(c[size-left][q]))
		}
	}
	return sum
}

// extend adds the numbers of trees of the next size.
func (c countTable) extend(a dta.Automaton) countTable {
	size, n := len(c), len(a.Accepting)
	row := make([]bignat.Nat, n)
	add := func(s int, count bignat.Nat) {
		if !count.IsZero() {
			row[s] = row[s].Add(count)
		}
	}
	for _, symbol := range a.Alphabet.Symbols(0) {
		if size == 1 {
			add(a.Transitions[symbol][0], bignat.FromUint64(1))
		}
	}
	for _, symbol := range a.Alphabet.Symbols(1) {
		for s := range n {
			add(a.Transitions[symbol][s], c[size-1][s])
		}
	}
	binary := a.Alphabet.Symbols(2)
	for p := range n {
		for q := 0; q < n && len(binary) > 0; q++ {
			count := c.pairs(size-1, p, q)
			for _, symbol := range binary {
				add(a.Transitions[symbol][p*n+q], count)
			}
		}
	}
	return append(c, row)
}

// Accepted returns the number of trees of a size that a valid automaton accepts.
func Accepted(a dta.Automaton, size int) bignat.Nat {
	c := countTable{make([]bignat.Nat, len(a.Accepting))}
	for range size {
		c = c.extend(a)
	}
	var sum bignat.Nat
	for s, is := range a.Accepting {
		if is {
			sum = sum.Add(c[size][s])
		}
	}
	return sum
}
