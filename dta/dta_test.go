package dta

import (
	"math/rand"
	"slices"
	"testing"

	"palmette/api"
	"palmette/rankedtree"
)

func random(r *rand.Rand, alphabet rankedtree.Alphabet, most int) Automaton {
	n := 1 + r.Intn(most)
	a := Automaton{Alphabet: alphabet}
	for range n {
		a.Accepting = append(a.Accepting, r.Intn(2) == 0)
	}
	for _, arity := range alphabet {
		table := make([]int, tableSize(arity, n))
		for i := range table {
			table[i] = r.Intn(n)
		}
		a.Transitions = append(a.Transitions, table)
	}
	return a
}

func trees(alphabet rankedtree.Alphabet, size int) []rankedtree.Tree {
	var l []rankedtree.Tree
	for t := range rankedtree.All(alphabet) {
		if rankedtree.Size(t) > size {
			break
		}
		l = append(l, t)
	}
	return l
}

// slowOrder follows the document: it considers all lists in every round.
func slowOrder(a Automaton) []int {
	var order []int
	for {
		known := slices.Clone(order)
		for sym, arity := range a.Alphabet {
			lists := [][]int{nil}
			for range arity {
				var next [][]int
				for _, l := range lists {
					for _, s := range known {
						next = append(next, append(slices.Clip(l), s))
					}
				}
				lists = next
			}
			for _, l := range lists {
				if s, _ := a.Step(sym, l...); !slices.Contains(order, s) {
					order = append(order, s)
				}
			}
		}
		if len(order) == len(known) {
			return order
		}
	}
}

// P33.2 to P33.6.
func TestRandomAutomata(t *testing.T) {
	r := rand.New(rand.NewSource(1))
	alphabet := rankedtree.Alphabet{1, 0, 2, 0}
	all := trees(alphabet, 4)
	for range 150 {
		a, b := random(r, alphabet, 6), random(r, alphabet, 5)
		c, e1 := a.Complement()
		trimmed, e2 := a.Trim()
		when := [4]bool{r.Intn(2) == 0, r.Intn(2) == 0, r.Intn(2) == 0, r.Intn(2) == 0}
		p, e3 := Product(a, b, when)
		to := r.Perm(len(a.Accepting))
		moved, e4 := a.Permute(to)
		again, e5 := moved.Trim()
		reachable, e6 := a.Reachable()
		for _, e := range []api.Errno{e1, e2, e3, e4, e5, e6} {
			if e != api.OK {
				t.Fatal(e)
			}
		}
		order := slowOrder(a)
		for s, is := range reachable {
			if is != slices.Contains(order, s) {
				t.Fatal(reachable, order)
			}
		}
		if !Equal(again, trimmed) || len(trimmed.Accepting) != len(order) {
			t.Fatal("Trim")
		}
		for _, x := range all {
			s, e := a.Run(x)
			q, _ := b.Run(x)
			k, _ := trimmed.Run(x)
			m, _ := moved.Run(x)
			pair, _ := p.Run(x)
			if e != api.OK || order[k] != s || to[s] != m || pair != s*len(b.Accepting)+q {
				t.Fatal(x)
			}
			index := 0
			if a.Accepts(x) {
				index++
			}
			if b.Accepts(x) {
				index += 2
			}
			if a.Accepts(x) == c.Accepts(x) || p.Accepts(x) != when[index] || trimmed.Accepts(x) != a.Accepts(x) || moved.Accepts(x) != a.Accepts(x) {
				t.Fatal(x)
			}
		}
	}
}

func TestExample(t *testing.T) {
	a := Automaton{rankedtree.Alphabet{0, 2}, []bool{false, true}, [][]int{{1}, {0, 1, 1, 0}}}
	for s, want := range map[string]int{"0": 1, "1(0,0)": 0, "1(0,1(0,0))": 1} {
		x, _ := rankedtree.Parse(s)
		if q, e := a.Run(x); q != want || e != api.OK || a.Accepts(x) != (want == 1) {
			t.Error(s, q)
		}
	}
	c := a.Clone()
	c.Transitions[1][0], c.Accepting[0], c.Alphabet[0] = 1, true, 0
	if a.Transitions[1][0] != 0 || a.Accepting[0] || Equal(a, c) || !Equal(Automaton{}, Automaton{Accepting: []bool{}, Transitions: [][]int{}}) || !Equal(Automaton{Transitions: [][]int{nil}}, Automaton{Transitions: [][]int{{}}}) {
		t.Error("Clone")
	}
}

// P33.1: errors.
func TestErrors(t *testing.T) {
	alphabet := rankedtree.Alphabet{0, 2}
	good := Automaton{alphabet, []bool{false, true}, [][]int{{1}, {0, 1, 1, 0}}}
	for i, x := range []struct {
		a    Automaton
		want api.Errno
	}{
		{Automaton{}, api.ErrRange}, {Automaton{Alphabet: rankedtree.Alphabet{2}}, api.ErrNotFound}, {Automaton{Alphabet: alphabet}, api.ErrRange}, {Automaton{Alphabet: alphabet, Accepting: make([]bool, 513)}, api.ErrRange}, {Automaton{alphabet, []bool{true}, [][]int{{5}}}, api.ErrFormat}, {Automaton{alphabet, []bool{true}, [][]int{{5}, {}}}, api.ErrFormat}, {Automaton{alphabet, []bool{true}, [][]int{{0, 0}, {0}}}, api.ErrFormat}, {Automaton{alphabet, []bool{true}, [][]int{{1}, {0}}}, api.ErrRange}, {Automaton{alphabet, []bool{true}, [][]int{{0}, {-1}}}, api.ErrRange},
	} {
		bad := rankedtree.Tree{Symbol: 9}
		s, e1 := x.a.Run(bad)
		k, e2 := x.a.Step(99)
		c, e3 := x.a.Complement()
		p, e4 := Product(x.a, Automaton{}, [4]bool{})
		_, e5 := Product(good, x.a, [4]bool{})
		l, e6 := x.a.Reachable()
		m, e7 := x.a.Trim()
		o, e8 := x.a.Permute(nil)
		for _, e := range []api.Errno{x.a.Check(), e1, e2, e3, e4, e5, e6, e7, e8} {
			if e != x.want {
				t.Error(i, e)
			}
		}
		if s != 0 || k != 0 || l != nil || x.a.Accepts(bad) || !Equal(c, Automaton{}) || !Equal(p, Automaton{}) || !Equal(m, Automaton{}) || !Equal(o, Automaton{}) {
			t.Error(i)
		}
	}
	for i, x := range []struct {
		sym  int
		l    []int
		want api.Errno
	}{{2, nil, api.ErrUnknown}, {-1, nil, api.ErrUnknown}, {0, []int{9}, api.ErrFormat}, {1, []int{9}, api.ErrFormat}, {1, []int{0, 2}, api.ErrRange}, {1, []int{-1, 0}, api.ErrRange}, {1, []int{0, 0}, api.OK}} {
		if s, e := good.Step(x.sym, x.l...); s != 0 || e != x.want {
			t.Error(i, e)
		}
	}
	if s, e := good.Run(rankedtree.Tree{Symbol: 1}); s != 0 || e != api.ErrFormat {
		t.Error(e)
	}
	for _, to := range [][]int{{0}, {0, 0}, {0, 2}, {-1, 0}, {0, 1, 2}} {
		if _, e := good.Permute(to); e != api.ErrFormat {
			t.Error(to, e)
		}
	}
	other := Automaton{rankedtree.Alphabet{0}, []bool{true}, [][]int{{0}}}
	if _, e := Product(good, other, [4]bool{}); e != api.ErrKind {
		t.Error(e)
	}
	big := random(rand.New(rand.NewSource(1)), rankedtree.Alphabet{0}, 1)
	big.Accepting = make([]bool, 257)
	small := Automaton{rankedtree.Alphabet{0}, []bool{true, false}, [][]int{{0}}}
	if _, e := Product(big, small, [4]bool{}); e != api.ErrLimit {
		t.Error(e)
	}
	big.Accepting = make([]bool, 256)
	if _, e := Product(big, small, [4]bool{}); e != api.OK {
		t.Error(e)
	}
}
