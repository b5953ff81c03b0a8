package leasttree

import (
	"testing"

	"palmette/rankedtree"
)

func TestFind(t *testing.T) {
	// State i+1 is reached by two trees of state i, up to 13; state 14 by nothing.
	n := 15
	tables := [][]int{{0}, make([]int, n*n)}
	for i := range 13 {
		tables[1][i*n+i] = i + 1
	}
	x := Find(Follow(rankedtree.Alphabet{0, 2}, n, tables))
	if _, is := x[14]; is || len(x) != 14 || x[13].Size != 1<<14-1 || !x.Less(3, 4) || x.Less(4, 3) {
		t.Error(len(x))
	}
	if s := rankedtree.Format(x.Tree(1)); s != "1(0,0)" {
		t.Error(s)
	}
	if r, is := x.Representable(11); !is || rankedtree.Size(r) != 4095 {
		t.Error(is)
	}
	for _, s := range []int{12, 14} {
		if r, is := x.Representable(s); is || r.Children != nil {
			t.Error(s)
		}
	}
}

func TestTies(t *testing.T) {
	// Two states with the same least tree have the same rank.
	emit := []Transition{{0, None, None, 0}, {0, None, None, 1}, {1, None, None, 2}}
	x := Find(func(take func(Transition)) {
		for _, y := range emit {
			take(y)
		}
	}, func(int, func(Transition)) {})
	if x.Less(0, 1) || x.Less(1, 0) || !x.Less(0, 2) || !x.Less(1, 2) {
		t.Error(x)
	}
}
