package minimize

import (
	"math/rand"
	"slices"
	"testing"

	"palmette/api"
	"palmette/dta"
	"palmette/rankedtree"
)

func random(r *rand.Rand, alphabet rankedtree.Alphabet, n int) dta.Automaton {
	a := dta.Automaton{Alphabet: alphabet}
	for range n {
		a.Accepting = append(a.Accepting, r.Intn(3) == 0)
	}
	for _, arity := range alphabet {
		table := make([]int, []int{1, n, n * n}[arity])
		for i := range table {
			table[i] = r.Intn(n) * r.Intn(2)
		}
		a.Transitions = append(a.Transitions, table)
	}
	return a
}

// slow computes, for each pair of states, the smallest distinguishing list of steps, by breadth-first search.
func slow(a dta.Automaton) map[[2]int][]Step {
	reachable, _ := a.Reachable()
	found := map[[2]int][]Step{}
	n := len(a.Accepting)
	for p := range n {
		for q := range n {
			if a.Accepting[p] != a.Accepting[q] {
				found[[2]int{p, q}] = []Step{}
			}
		}
	}
	for round := 1; round <= n+1; round++ {
		next := map[[2]int][]Step{}
		for p := range n {
			for q := range n {
				if _, is := found[[2]int{p, q}]; is {
					continue
				}
				each := func(x Step, s, t int) {
					if rest, is := found[[2]int{s, t}]; is && len(rest) == round-1 {
						if _, has := next[[2]int{p, q}]; !has {
							next[[2]int{p, q}] = append([]Step{x}, rest...)
						}
					}
				}
				for sym, arity := range a.Alphabet {
					if arity == 1 {
						s, _ := a.Step(sym, p)
						t, _ := a.Step(sym, q)
						each(Step{sym, 0, -1}, s, t)
					}
					for operand := 0; arity == 2 && operand < 2; operand++ {
						for o := range n {
							l, k := []int{p, o}, []int{q, o}
							if operand == 1 {
								l, k = []int{o, p}, []int{o, q}
							}
							s, _ := a.Step(sym, l...)
							t, _ := a.Step(sym, k...)
							if reachable[o] {
								each(Step{sym, operand, o}, s, t)
							}
						}
					}
				}
			}
		}
		for k, v := range next {
			found[k] = v
		}
	}
	return found
}

// P35.1 to P35.5.
func TestRandomAutomata(t *testing.T) {
	r := rand.New(rand.NewSource(1))
	alphabet := rankedtree.Alphabet{0, 1, 2, 0}
	for range 120 {
		a := random(r, alphabet, 1+r.Intn(6))
		n := len(a.Accepting)
		lists := slow(a)
		p, e := Classes(a)
		m, to, f := Minimize(a)
		if e != api.OK || f != api.OK {
			t.Fatal(e, f)
		}
		for i := range n {
			for k := range n {
				want, different := lists[[2]int{i, k}]
				got, is, e := Distinguish(a, i, k)
				if e != api.OK || is != different || p.Connected(i, k) == different || !slices.Equal(got, want) {
					t.Fatal(i, k, got, want)
				}
			}
		}
		reachable, _ := a.Reachable()
		again, same, _ := Minimize(m)
		if !dta.Equal(again, m) || !IsMinimal(m) || IsMinimal(a) != dta.Equal(a, m) {
			t.Fatal("minimal")
		}
		for s := range same {
			if same[s] != s {
				t.Fatal(same)
			}
		}
		for s, is := range reachable {
			if (to[s] < 0) == is {
				t.Fatal(to)
			}
			for q := range n {
				if is && reachable[q] && (to[s] == to[q]) != p.Connected(s, q) {
					t.Fatal(to)
				}
			}
		}
		c, _ := a.Complement()
		mc, _ := m.Complement()
		if x, _, _ := Minimize(c); !dta.Equal(x, mc) {
			t.Fatal("complement")
		}
		b := random(r, alphabet, 1+r.Intn(2))
		equal := true
		least := make([]*rankedtree.Tree, n)
		for x := range rankedtree.All(alphabet) {
			if rankedtree.Size(x) > 5 {
				break
			}
			s, _ := a.Run(x)
			if k, _ := m.Run(x); k != to[s] {
				t.Fatal(x)
			}
			if least[s] == nil {
				least[s] = &x
			}
			equal = equal && a.Accepts(x) == b.Accepts(x)
		}
		if is, e := Equivalent(a, b); e != api.OK || is && !equal {
			t.Fatal("Equivalent")
		}
		if is, _ := Equivalent(a, m); !is {
			t.Fatal("Equivalent")
		}
		trees, found, e := SmallestTrees(a)
		for s := range n {
			if e != api.OK || found[s] != reachable[s] || least[s] != nil && !rankedtree.Equal(trees[s], *least[s]) {
				t.Fatal(s, trees[s], found)
			}
		}
	}
}

func TestExample(t *testing.T) {
	a := dta.Automaton{Alphabet: rankedtree.Alphabet{0, 2}, Accepting: make([]bool, 3), Transitions: [][]int{{1}, {0, 1, 2, 1, 2, 0, 2, 0, 1}}}
	if p, _ := Classes(a); p.NumBlocks() != 1 {
		t.Error(p.Blocks())
	}
	if m, _, _ := Minimize(a); len(m.Accepting) != 1 {
		t.Error(m)
	}
	a.Accepting[0] = true
	p, _ := Classes(a)
	l, is, _ := Distinguish(a, 0, 1)
	k, has, _ := Distinguish(a, 1, 2)
	if p.NumBlocks() != 3 || len(l) != 0 || !is || !slices.Equal(k, []Step{{1, 0, 1}}) || !has {
		t.Error(p.Blocks(), l, k)
	}
	if l, is, e := Distinguish(a, 2, 2); l != nil || is || e != api.OK {
		t.Error(l)
	}
}

func TestLargeTrees(t *testing.T) {
	// State i is reached by the full binary tree of depth i+1 only.
	n := 20
	a := dta.Automaton{Alphabet: rankedtree.Alphabet{0, 2}, Accepting: make([]bool, n), Transitions: [][]int{{0}, make([]int, n*n)}}
	for i := range n {
		a.Transitions[1][i*n+i] = min(i+1, n-1)
	}
	trees, found, e := SmallestTrees(a)
	for i := range n {
		if e != api.OK || found[i] != (i <= 11) || found[i] && rankedtree.Size(trees[i]) != 2<<i-1 || !found[i] && trees[i].Children != nil {
			t.Error(i, found[i])
		}
	}
	chain := dta.Automaton{Alphabet: rankedtree.Alphabet{0, 1}, Accepting: make([]bool, 512), Transitions: [][]int{{0}, make([]int, 512)}}
	for i := range 512 {
		chain.Transitions[1][i] = min(i+1, 511)
	}
	trees, found, _ = SmallestTrees(chain)
	if !found[511] || rankedtree.Depth(trees[511]) != 512 {
		t.Error(found[511])
	}
	chain.Accepting[511] = true
	if l, _, _ := Distinguish(chain, 0, 1); len(l) != 510 {
		t.Error(len(l))
	}
}

func TestErrors(t *testing.T) {
	bad := dta.Automaton{}
	good := dta.Automaton{Alphabet: rankedtree.Alphabet{0}, Accepting: []bool{true}, Transitions: [][]int{{0}}}
	p, e1 := Classes(bad)
	m, to, e2 := Minimize(bad)
	_, e3 := Equivalent(bad, good)
	_, e4 := Equivalent(good, bad)
	l, f, e5 := SmallestTrees(bad)
	s, is, e6 := Distinguish(bad, 9, 9)
	for i, e := range []api.Errno{e1, e2, e3, e4, e5, e6} {
		if e != api.ErrRange {
			t.Error(i, e)
		}
	}
	if p != nil || to != nil || l != nil || f != nil || s != nil || is || IsMinimal(bad) || !dta.Equal(m, bad) || !IsMinimal(good) {
		t.Error("zero values")
	}
	for _, x := range [][2]int{{-1, 0}, {0, 1}} {
		if _, _, e := Distinguish(good, x[0], x[1]); e != api.ErrRange {
			t.Error(e)
		}
	}
	other := dta.Automaton{Alphabet: rankedtree.Alphabet{0, 0}, Accepting: []bool{true}, Transitions: [][]int{{0}, {0}}}
	if is, e := Equivalent(good, other); is || e != api.ErrKind {
		t.Error(e)
	}
}
