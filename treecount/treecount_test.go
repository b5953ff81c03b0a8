package treecount

import (
	"testing"

	"palmette/dta"
	"palmette/rankedtree"
)

func TestAccepted(t *testing.T) {
	// The trees with an odd number of leaves; those with n leaves are counted by the Catalan numbers.
	a := dta.Automaton{Alphabet: rankedtree.Alphabet{0, 2}, Accepting: []bool{false, true}, Transitions: [][]int{{1}, {0, 1, 1, 0}}}
	for size, want := range []string{"0", "1", "0", "0", "0", "2", "0", "0", "0", "14", "0", "0", "0", "132"} {
		if n := Accepted(a, size); n.String() != want {
			t.Error(size, n)
		}
	}
	unary := dta.Automaton{Alphabet: rankedtree.Alphabet{0, 1, 1}, Accepting: []bool{true}, Transitions: [][]int{{0}, {0}, {0}}}
	if n := Accepted(unary, 64); n.String() != "9223372036854775808" {
		t.Error(n)
	}
}
