package emptiness

import (
	"math/rand"
	"testing"

	"palmette/api"
	"palmette/bignat"
	"palmette/dta"
	"palmette/nta"
	"palmette/rankedtree"
)

var ranks = rankedtree.Alphabet{0, 1, 2, 0}

func randomNTA(r *rand.Rand) nta.Automaton {
	a := nta.Automaton{Ranks: ranks, States: 1 + r.Intn(4)}
	for range r.Intn(10) {
		x := nta.Rule{Sym: r.Intn(len(ranks)), To: r.Intn(a.States)}
		for range ranks[x.Sym] {
			x.From = append(x.From, r.Intn(a.States))
		}
		a.Rules = append(a.Rules, x)
	}
	for range r.Intn(3) {
		a.Final = append(a.Final, r.Intn(a.States))
	}
	return a
}

func randomDTA(r *rand.Rand, n int) dta.Automaton {
	a := dta.Automaton{Alphabet: ranks}
	for range n {
		a.Accepting = append(a.Accepting, r.Intn(3) == 0)
	}
	for _, arity := range ranks {
		table := make([]int, []int{1, n, n * n}[arity])
		for i := range table {
			table[i] = r.Intn(n)
		}
		a.Transitions = append(a.Transitions, table)
	}
	return a
}

func trees(size int) []rankedtree.Tree {
	var l []rankedtree.Tree
	for t := range rankedtree.All(ranks) {
		if rankedtree.Size(t) > size {
			break
		}
		l = append(l, t)
	}
	return l
}

// P36.1 to P36.5, on all small trees.
func TestRandomAutomata(t *testing.T) {
	r := rand.New(rand.NewSource(1))
	all := trees(6)
	for range 150 {
		a, b, c := randomNTA(r), randomDTA(r, 1+r.Intn(3)), randomDTA(r, 1+r.Intn(3))
		least := map[int]rankedtree.Tree{}
		var accepted, missing, differing *rankedtree.Tree
		counts := make([]uint64, 7)
		accepts := 0
		for _, x := range all {
			l, _ := a.ReachableStates(x)
			for _, s := range l {
				if _, is := least[s]; !is {
					least[s] = x
				}
			}
			in := a.Accepts(x)
			if in {
				accepts++
			}
			if in && accepted == nil {
				accepted = &x
			}
			if in && !b.Accepts(x) && missing == nil {
				missing = &x
			}
			if b.Accepts(x) != c.Accepts(x) && differing == nil {
				differing = &x
			}
			if b.Accepts(x) {
				counts[rankedtree.Size(x)]++
			}
		}
		l, found, e := LeastTrees(a)
		for s := range a.States {
			if want, is := least[s]; e != api.OK || found[s] != is || !rankedtree.Equal(l[s], want) {
				t.Fatal(a, s, l[s], want)
			}
		}
		best, is, e := LeastTree(a)
		if e != api.OK || is != (accepted != nil) || is && !rankedtree.Equal(best, *accepted) || !is && best.Children != nil {
			t.Fatal(best)
		}
		inside, w, e := Included(a, b)
		if e != api.OK || missing != nil && (inside || !rankedtree.Equal(w, *missing)) || inside && w.Children != nil || !inside && (!a.Accepts(w) || b.Accepts(w)) {
			t.Fatal(inside, w, missing)
		}
		same, w, e := Equal(b, c)
		if e != api.OK || differing != nil && (same || !rankedtree.Equal(w, *differing)) || !same && b.Accepts(w) == c.Accepts(w) {
			t.Fatal(same, w, differing)
		}
		other, _ := b.Complement()
		for size, want := range counts {
			n, e := CountTrees(b, size)
			m, _ := CountTrees(other, size)
			if k, _ := n.Uint64(); e != api.OK || k != want {
				t.Fatal(size, n, want)
			}
			total := 0
			for _, x := range all {
				if rankedtree.Size(x) == size {
					total++
				}
			}
			if !n.Add(m).Equal(bignat.FromUint64(uint64(total))) {
				t.Fatal("complement")
			}
		}
		checkFinite(t, a)
	}
}

// checkFinite tries to pump: an infinite language has a tree that is deeper than the number of states.
func checkFinite(t *testing.T, a nta.Automaton) {
	trimmed, _ := a.Trim()
	reach := map[[2]int]bool{}
	for _, r := range trimmed.Rules {
		for _, s := range r.From {
			reach[[2]int{s, r.To}] = true
		}
	}
	for k := range trimmed.States {
		for i := range trimmed.States {
			for j := range trimmed.States {
				if reach[[2]int{i, k}] && reach[[2]int{k, j}] {
					reach[[2]int{i, j}] = true
				}
			}
		}
	}
	want := true
	for s := range trimmed.States {
		want = want && !reach[[2]int{s, s}]
	}
	if is, e := IsFinite(a); is != want || e != api.OK {
		t.Fatal(is, want)
	}
}

func TestExampleAndLargeTrees(t *testing.T) {
	a := nta.Automaton{Ranks: rankedtree.Alphabet{0, 2}, States: 2, Rules: []nta.Rule{{Sym: 0, To: 0}, {Sym: 0, To: 1}, {Sym: 1, From: []int{0, 1}, To: 1}}, Final: []int{1}}
	l, found, _ := LeastTrees(a)
	best, is, _ := LeastTree(a)
	finite, _ := IsFinite(a)
	if rankedtree.Format(l[0]) != "0" || rankedtree.Format(l[1]) != "0" || !found[0] || !found[1] || rankedtree.Format(best) != "0" || !is || finite {
		t.Error(l, best, finite)
	}
	full := nta.Automaton{Ranks: rankedtree.Alphabet{0, 2}, States: 200, Rules: []nta.Rule{{Sym: 0, To: 0}}, Final: []int{199}}
	for i := range 199 {
		full.Rules = append(full.Rules, nta.Rule{Sym: 1, From: []int{i, i}, To: i + 1})
	}
	l, found, _ = LeastTrees(full)
	if !found[11] || rankedtree.Size(l[11]) != 4095 || found[12] || found[199] {
		t.Error("representable")
	}
	if _, is, e := LeastTree(full); is || e != api.OK {
		t.Error(is)
	}
	none := dta.Automaton{Alphabet: full.Ranks, Accepting: []bool{false}, Transitions: [][]int{{0}, {0}}}
	if in, w, e := Included(full, none); in || e != api.OK || w.Children != nil {
		t.Error(in, e)
	}
	if finite, _ := IsFinite(full); !finite {
		t.Error("finite")
	}
	every := dta.Automaton{Alphabet: rankedtree.Alphabet{0, 2}, Accepting: []bool{true}, Transitions: [][]int{{0}, {0}}}
	if n, e := CountTrees(every, 63); e != api.OK || n.String() != "14544636039226909" {
		t.Error(n)
	}
}

func TestErrors(t *testing.T) {
	good := dta.Automaton{Alphabet: rankedtree.Alphabet{0}, Accepting: []bool{true}, Transitions: [][]int{{0}}}
	wide := dta.Automaton{Alphabet: rankedtree.Alphabet{0}, Accepting: make([]bool, 512), Transitions: [][]int{{0}}}
	if l, f, e := LeastTrees(nta.Automaton{}); l != nil || f != nil || e != api.ErrRange {
		t.Error(e)
	}
	if _, is, e := LeastTree(nta.Automaton{}); is || e != api.ErrRange {
		t.Error(e)
	}
	if is, e := IsFinite(nta.Automaton{}); is || e != api.ErrRange {
		t.Error(e)
	}
	for size, want := range map[int]api.Errno{-1: api.ErrRange, 65: api.ErrRange, 64: api.OK, 0: api.OK} {
		if n, e := CountTrees(good, size); !n.IsZero() || e != want {
			t.Error(size, e)
		}
	}
	if _, e := CountTrees(dta.Automaton{Alphabet: rankedtree.Alphabet{1}}, -1); e != api.ErrNotFound {
		t.Error(e)
	}
	a := nta.Automaton{Ranks: rankedtree.Alphabet{0}, States: 129}
	for i, x := range []struct {
		a    nta.Automaton
		b    dta.Automaton
		want api.Errno
	}{{nta.Automaton{Ranks: rankedtree.Alphabet{1}}, dta.Automaton{}, api.ErrNotFound}, {a, dta.Automaton{}, api.ErrRange}, {nta.Automaton{Ranks: ranks, States: 200}, wide, api.ErrFormat}, {a, wide, api.ErrLimit}} {
		if is, w, e := Included(x.a, x.b); is || w.Children != nil || e != x.want {
			t.Error(i, e)
		}
	}
	for i, x := range []struct {
		a, b dta.Automaton
		want api.Errno
	}{{dta.Automaton{Alphabet: rankedtree.Alphabet{1}}, dta.Automaton{}, api.ErrNotFound}, {good, dta.Automaton{}, api.ErrRange}, {wide, randomDTA(rand.New(rand.NewSource(1)), 200), api.ErrFormat}, {wide, wide, api.ErrLimit}, {good, good, api.OK}} {
		if is, w, e := Equal(x.a, x.b); is != (e == api.OK) || w.Children != nil || e != x.want {
			t.Error(i, e)
		}
	}
}
