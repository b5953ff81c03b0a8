package nta

import (
	"math/rand"
	"slices"
	"testing"

	"palmette/api"
	"palmette/rankedtree"
)

var ranks = rankedtree.Alphabet{0, 1, 2, 0, 1}

func random(r *rand.Rand, alphabet rankedtree.Alphabet) Automaton {
	a := Automaton{Ranks: alphabet, States: 1 + r.Intn(3)}
	for range r.Intn(12) {
		x := Rule{Sym: r.Intn(len(alphabet)), To: r.Intn(a.States)}
		for range alphabet[x.Sym] {
			x.From = append(x.From, r.Intn(a.States))
		}
		a.Rules = append(a.Rules, x)
	}
	for range r.Intn(3) {
		a.Final = append(a.Final, r.Intn(a.States))
	}
	return a
}

func trees(alphabet rankedtree.Alphabet, size int) []rankedtree.Tree {
	var l []rankedtree.Tree
	for t := range rankedtree.All(alphabet) {
		if rankedtree.Size(t) > size {
			break
		}
		l = append(l, t)
	}
	return l
}

// runs returns all runs of a tree, with their states in postorder.
func runs(a Automaton, t rankedtree.Tree) [][]int {
	lists := [][]int{nil}
	roots := [][]int{nil}
	for _, x := range t.Children {
		var next, tops [][]int
		for i, l := range lists {
			for _, r := range runs(a, x) {
				next = append(next, append(slices.Clip(l), r...))
				tops = append(tops, append(slices.Clip(roots[i]), r[len(r)-1]))
			}
		}
		lists, roots = next, tops
	}
	var all [][]int
	for i, l := range lists {
		for q := range a.States {
			if slices.ContainsFunc(a.Rules, func(r Rule) bool { return r.Sym == t.Symbol && r.To == q && slices.Equal(r.From, roots[i]) }) {
				all = append(all, append(slices.Clip(l), q))
			}
		}
	}
	return all
}

func relabel(t rankedtree.Tree, to []int) rankedtree.Tree {
	t = rankedtree.Clone(t)
	t.Symbol = to[t.Symbol]
	for i, x := range t.Children {
		t.Children[i] = relabel(x, to)
	}
	return t
}

// P32.2 to P32.7 on all small trees.
func TestLanguages(t *testing.T) {
	r := rand.New(rand.NewSource(1))
	all := trees(ranks, 4)
	for range 120 {
		a, b := random(r, ranks), random(r, ranks)
		u, e1 := Union(a, b)
		i, e2 := Intersection(a, b)
		trimmed, e3 := a.Trim()
		normal, e4 := a.Normalize()
		to, small := []int{1, 2, 3, 1, 0}, rankedtree.Alphabet{1, 0, 1, 2}
		image, e5 := a.Relabel(to, small)
		from, wide := []int{3, 2, 4, 0, 1, 2}, rankedtree.Alphabet{0, 2, 1, 0, 1, 2}
		inverse, e6 := a.InverseRelabel(from, wide)
		for _, e := range []api.Errno{e1, e2, e3, e4, e5, e6} {
			if e != api.OK {
				t.Fatal(e)
			}
		}
		if !Equal(a, normal) || !Equal(normal, a) || u.States != a.States+b.States || i.States != a.States*b.States {
			t.Fatal("Normalize")
		}
		images := map[string]bool{}
		for _, x := range all {
			accepting := slices.DeleteFunc(runs(a, x), func(l []int) bool { return !slices.Contains(a.Final, l[len(l)-1]) })
			in := len(accepting) > 0
			if a.Accepts(x) != in || u.Accepts(x) != (in || b.Accepts(x)) || i.Accepts(x) != (in && b.Accepts(x)) || trimmed.Accepts(x) != in {
				t.Fatal(x)
			}
			slices.SortFunc(accepting, slices.Compare[[]int])
			least, is, e := a.LeastRun(x)
			n, f := a.CountRuns(x)
			if e != api.OK || f != api.OK || is != in || in && !slices.Equal(least, accepting[0]) || !in && least != nil {
				t.Fatal(x, least)
			}
			if k, _ := n.Uint64(); int(k) != len(accepting) {
				t.Fatal(k, accepting)
			}
			var roots []int
			for _, l := range runs(a, x) {
				roots = append(roots, l[len(l)-1])
			}
			slices.Sort(roots)
			if got, e := a.ReachableStates(x); e != api.OK || !slices.Equal(got, slices.Compact(roots)) {
				t.Fatal(got, roots)
			}
			if in {
				images[rankedtree.Format(relabel(x, to))] = true
			}
		}
		for _, x := range trees(small, 4) {
			if image.Accepts(x) != images[rankedtree.Format(x)] {
				t.Fatal("Relabel", x)
			}
		}
		for _, x := range trees(wide, 3) {
			if inverse.Accepts(x) != a.Accepts(relabel(x, from)) {
				t.Fatal("InverseRelabel", x)
			}
		}
		checkTrim(t, a, trimmed)
	}
}

func checkTrim(t *testing.T, a, trimmed Automaton) {
	again, _ := trimmed.Trim()
	if !Equal(again, trimmed) || trimmed.States > a.States {
		t.Fatal("Trim")
	}
	reached := map[int]bool{}
	for _, x := range trees(trimmed.Ranks, 5) {
		l, _ := trimmed.ReachableStates(x)
		for _, s := range l {
			reached[s] = true
		}
	}
	if len(reached) != trimmed.States {
		t.Fatal("unreachable", trimmed)
	}
}

func TestExample(t *testing.T) {
	a := Automaton{rankedtree.Alphabet{0, 2}, 2, []Rule{{0, nil, 0}, {0, nil, 1}, {1, []int{0, 1}, 1}}, []int{1}}
	x, _ := rankedtree.Parse("1(0,0)")
	n, _ := a.CountRuns(x)
	if l, is, e := a.LeastRun(x); !slices.Equal(l, []int{0, 1, 1}) || !is || e != api.OK || n.String() != "1" {
		t.Error(l, n)
	}
	double := a.Clone()
	double.Rules = append(double.Rules, Rule{0, []int{}, 1}, Rule{0, nil, 0})
	double.Final = []int{1, 1}
	if m, _ := double.Normalize(); !Equal(a, double) || len(m.Rules) != 3 || len(m.Final) != 1 {
		t.Error(m)
	}
	double.Rules[2].From[0] = 1
	if a.Rules[2].From[0] != 0 || Equal(a, double) {
		t.Error("shared")
	}
}

// P32.1, P32.3 and P32.4: errors.
func TestErrors(t *testing.T) {
	many := make([]Rule, MaxRules+1)
	for i, x := range []struct {
		a    Automaton
		want api.Errno
	}{
		{Automaton{}, api.ErrRange}, {Automaton{Ranks: rankedtree.Alphabet{1}, States: 999}, api.ErrNotFound}, {Automaton{Ranks: ranks, States: 257}, api.ErrRange}, {Automaton{Ranks: ranks, States: -1}, api.ErrRange}, {Automaton{Ranks: ranks, States: 1, Rules: many}, api.ErrRange}, {Automaton{Ranks: ranks, States: 1, Rules: many[1:]}, api.OK},
		{Automaton{Ranks: ranks, States: 1, Rules: []Rule{{5, nil, 9}}}, api.ErrUnknown}, {Automaton{Ranks: ranks, States: 1, Rules: []Rule{{-1, nil, 9}}}, api.ErrUnknown}, {Automaton{Ranks: ranks, States: 1, Rules: []Rule{{1, nil, 9}}}, api.ErrFormat}, {Automaton{Ranks: ranks, States: 1, Rules: []Rule{{1, []int{1}, 0}}}, api.ErrRange}, {Automaton{Ranks: ranks, States: 1, Rules: []Rule{{0, nil, 1}, {9, nil, 0}}}, api.ErrRange}, {Automaton{Ranks: ranks, States: 1, Final: []int{1}}, api.ErrRange}, {Automaton{Ranks: ranks, States: 1, Rules: []Rule{{9, nil, 0}}, Final: []int{1}}, api.ErrUnknown}, {Automaton{Ranks: ranks}, api.OK},
	} {
		bad := rankedtree.Tree{Symbol: 99}
		_, e1 := x.a.Normalize()
		_, e2 := x.a.Trim()
		_, e3 := x.a.Relabel(nil, nil)
		_, e4 := x.a.InverseRelabel(nil, nil)
		_, e5 := x.a.ReachableStates(bad)
		_, _, e6 := x.a.LeastRun(bad)
		_, e7 := x.a.CountRuns(bad)
		_, e8 := Union(Automaton{Ranks: ranks}, x.a)
		_, e9 := Intersection(x.a, Automaton{})
		if x.a.Check() != x.want {
			t.Error(i, x.a.Check())
		}
		if x.want == api.OK {
			if e3 != api.ErrRange || e4 != api.ErrRange || e5 != api.ErrUnknown || e6 != e5 || e7 != e5 || e9 != api.ErrRange {
				t.Error(i, e3, e4, e5, e6, e7, e9)
			}
			continue
		}
		for _, e := range []api.Errno{e1, e2, e3, e4, e5, e6, e7, e8, e9} {
			if e != x.want {
				t.Error(i, e)
			}
		}
		if x.a.Accepts(bad) {
			t.Error(i)
		}
	}
	a := Automaton{Ranks: ranks, States: 17}
	if _, e := Union(a, Automaton{Ranks: rankedtree.Alphabet{0}, States: 1}); e != api.ErrFormat {
		t.Error(e)
	}
	if _, e := Intersection(a, a); e != api.ErrLimit {
		t.Error(e)
	}
	big := Automaton{Ranks: ranks, States: 200}
	if _, e := Union(big, big); e != api.ErrLimit {
		t.Error(e)
	}
	full := Automaton{Ranks: rankedtree.Alphabet{0, 2}, States: 40}
	for i := range 40 * 40 * 40 {
		full.Rules = append(full.Rules, Rule{1, []int{i / 1600, i / 40 % 40}, i % 40})
	}
	if _, e := Union(full, full); e != api.ErrLimit {
		t.Error(e)
	}
	if _, e := full.InverseRelabel([]int{0, 1, 1}, rankedtree.Alphabet{0, 2, 2}); e != api.ErrLimit {
		t.Error(e)
	}
	for _, to := range [][]int{{0}, {0, 1, 2, 3, 5}, {0, 1, 2, 3, -1}, {0, 1, 2, 1, 1}} {
		if _, e := a.Relabel(to, ranks); e != api.ErrFormat {
			t.Error(to, e)
		}
		if _, e := a.InverseRelabel(to, ranks); e != api.ErrFormat {
			t.Error(to, e)
		}
	}
}
