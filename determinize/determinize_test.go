package determinize

import (
	"math/rand"
	"reflect"
	"slices"
	"testing"

	"palmette/api"
	"palmette/dta"
	"palmette/nta"
	"palmette/rankedtree"
)

var ranks = rankedtree.Alphabet{0, 1, 2, 0, 1}

func random(r *rand.Rand) nta.Automaton {
	a := nta.Automaton{Ranks: ranks, States: 1 + r.Intn(3)}
	for range r.Intn(14) {
		x := nta.Rule{Sym: r.Intn(len(ranks)), To: r.Intn(a.States)}
		for range ranks[x.Sym] {
			x.From = append(x.From, r.Intn(a.States))
		}
		a.Rules = append(a.Rules, x)
	}
	for range r.Intn(3) {
		a.Final = append(a.Final, r.Intn(a.States))
	}
	return a
}

func trees(alphabet rankedtree.Alphabet, size int) []rankedtree.Tree {
	var l []rankedtree.Tree
	for t := range rankedtree.All(alphabet) {
		if rankedtree.Size(t) > size {
			break
		}
		l = append(l, t)
	}
	return l
}

// P34.1 to P34.5.
func TestRandomAutomata(t *testing.T) {
	r := rand.New(rand.NewSource(1))
	all := trees(ranks, 5)
	to, small := []int{1, 2, 3, 1, 2}, rankedtree.Alphabet{1, 0, 1, 2}
	from, wide := []int{3, 2, 4, 0, 1, 2}, rankedtree.Alphabet{0, 2, 1, 0, 1, 2}
	for range 80 {
		a := random(r)
		d, e := FromNTA(a, 999)
		subsets, f := Subsets(a, len(d.Accepting))
		if e != api.OK || f != api.OK || d.Check() != api.OK {
			t.Fatal(e, f)
		}
		if _, e := FromNTA(a, len(subsets)-1); e != api.ErrLimit && len(subsets) > 1 {
			t.Fatal(e)
		}
		for _, x := range all {
			s, _ := d.Run(x)
			l, _ := a.ReachableStates(x)
			if !slices.Equal(subsets[s], l) || d.Accepts(x) != a.Accepts(x) {
				t.Fatal(x, subsets[s], l)
			}
		}
		if trimmed, _ := d.Trim(); !dta.Equal(trimmed, d) {
			t.Fatal("numbering")
		}
		back, e := ToNTA(d)
		again, f := FromNTA(back, 999)
		if e != api.OK || f != api.OK || !dta.Equal(again, d) {
			t.Fatal("ToNTA")
		}
		p, e := Project(d, to, small, 999)
		inverse, f := InverseRelabel(d, from, wide)
		if e != api.OK || f != api.OK {
			t.Fatal(e, f)
		}
		for _, x := range trees(wide, 3) {
			y, e := Relabel(x, from)
			if e != api.OK || inverse.Accepts(x) != d.Accepts(y) {
				t.Fatal(x)
			}
		}
		least := map[string]rankedtree.Tree{}
		for _, x := range all {
			y, _ := Relabel(x, to)
			if _, is := least[rankedtree.Format(y)]; !is && d.Accepts(x) {
				least[rankedtree.Format(y)] = x
			}
		}
		for _, x := range trees(small, 5) {
			want, is := least[rankedtree.Format(x)]
			w, found, e := Witness(d, to, small, x)
			if e != api.OK || found != is || p.Accepts(x) != is || !rankedtree.Equal(w, want) {
				t.Fatal(x, w, want)
			}
		}
	}
}

func TestExample(t *testing.T) {
	a := nta.Automaton{Ranks: rankedtree.Alphabet{0, 2}, States: 2, Rules: []nta.Rule{{Sym: 0, To: 0}, {Sym: 0, To: 1}, {Sym: 1, From: []int{0, 1}, To: 1}}, Final: []int{1}}
	l, e := Subsets(a, 3)
	if e != api.OK || !reflect.DeepEqual(l, [][]int{{0, 1}, {1}, {}}) {
		t.Error(l)
	}
	for most, want := range map[int]api.Errno{0: api.ErrRange, -1: api.ErrRange, 1: api.ErrLimit, 2: api.ErrLimit, 3: api.OK} {
		d, e := FromNTA(a, most)
		l, f := Subsets(a, most)
		if e != want || f != want || e != api.OK && (len(l) > 0 || !dta.Equal(d, dta.Automaton{})) {
			t.Error(most, e)
		}
	}
}

func TestErrors(t *testing.T) {
	if _, e := FromNTA(nta.Automaton{}, 0); e != api.ErrRange {
		t.Error(e)
	}
	if _, e := Subsets(nta.Automaton{Ranks: rankedtree.Alphabet{1}}, 0); e != api.ErrNotFound {
		t.Error(e)
	}
	nullary := func(n int) dta.Automaton {
		return dta.Automaton{Alphabet: rankedtree.Alphabet{0}, Accepting: make([]bool, n), Transitions: [][]int{{0}}}
	}
	binary := dta.Automaton{Alphabet: rankedtree.Alphabet{0, 2}, Accepting: make([]bool, 256), Transitions: [][]int{{0}, make([]int, 65536)}}
	for i, x := range []struct {
		a    dta.Automaton
		want api.Errno
	}{{dta.Automaton{}, api.ErrRange}, {nullary(257), api.ErrLimit}, {nullary(256), api.OK}, {binary, api.ErrLimit}} {
		if _, e := ToNTA(x.a); e != x.want {
			t.Error(i, e)
		}
		if _, e := Project(x.a, nil, nil, 0); x.want != api.OK && e != x.want || x.want == api.OK && e != api.ErrRange {
			t.Error(i, e)
		}
	}
	a := nullary(1)
	one := rankedtree.Alphabet{0}
	for i, x := range []struct {
		a     dta.Automaton
		m     []int
		ranks rankedtree.Alphabet
		want  api.Errno
	}{{dta.Automaton{}, nil, nil, api.ErrRange}, {a, nil, rankedtree.Alphabet{1}, api.ErrNotFound}, {a, nil, one, api.ErrFormat}, {a, []int{1}, one, api.ErrFormat}, {a, []int{-1}, one, api.ErrFormat}, {a, []int{0}, rankedtree.Alphabet{1, 0}, api.ErrFormat}} {
		if _, e := InverseRelabel(x.a, x.m, x.ranks); e != x.want {
			t.Error(i, e)
		}
		if w, is, e := Witness(x.a, x.m, x.ranks, rankedtree.Tree{Symbol: 9}); is || e != x.want || w.Symbol != 0 {
			t.Error(i, e)
		}
	}
	if _, is, e := Witness(a, []int{0}, one, rankedtree.Tree{Symbol: 9}); is || e != api.ErrUnknown {
		t.Error(e)
	}
	if _, e := Project(a, []int{7}, one, 5); e != api.ErrFormat {
		t.Error(e)
	}
	for _, s := range []int{-1, 2} {
		if x, e := Relabel(rankedtree.Tree{Symbol: 1, Children: []rankedtree.Tree{{Symbol: s}}}, []int{0, 5}); e != api.ErrUnknown || x.Children != nil {
			t.Error(e)
		}
	}
}
