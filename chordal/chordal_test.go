package chordal

import (
	"math/rand"
	"slices"
	"testing"

	"palmette/api"
	"palmette/bitset"
	"palmette/graph"
	"palmette/sample"
)

func permutations(l []int, take func([]int) bool) {
	var extend func(done, rest []int) bool
	extend = func(done, rest []int) bool {
		if len(rest) == 0 {
			return take(done)
		}
		for i := range rest {
			if !extend(append(slices.Clip(done), rest[i]), append(slices.Clone(rest[:i]), rest[i+1:]...)) {
				return false
			}
		}
		return true
	}
	extend(nil, l)
}

func pairwise(g *graph.Graph, s bitset.Set) bool {
	_, m := g.Induced(s).Len()
	return m == s.Len()*(s.Len()-1)/2
}

func perfect(g *graph.Graph, order []int) bool {
	for i, v := range order {
		if !pairwise(g, g.Neighbors(v).Intersect(bitset.Of(order[i+1:]...))) {
			return false
		}
	}
	return true
}

// leastHole tries all induced subgraphs.
func leastHole(g *graph.Graph) []int {
	var best []int
	for s := range g.VertexSet().Subsets() {
		h := g.Induced(s)
		if s.Len() < 4 || best != nil && s.Len() > len(best) {
			continue
		}
		permutations(s.Elements(), func(p []int) bool {
			first, _ := s.Min()
			_, m := h.Len()
			ok := m == len(p) && p[0] == first && p[1] < p[len(p)-1]
			for i := range p {
				ok = ok && h.Neighbors(p[i]).Has(p[(i+1)%len(p)])
			}
			if ok && (best == nil || len(p) < len(best) || slices.Compare(p, best) < 0) {
				best = slices.Clone(p)
			}
			return true
		})
	}
	return best
}

// P24.1 to P24.4 by exhaustive search.
func TestSmallGraphs(t *testing.T) {
	r := rand.New(rand.NewSource(1))
	for range 250 {
		g := sample.Graph(r.Intn, r.Intn(8))
		var order []int
		found := false
		permutations(g.VertexSet().Elements(), func(p []int) bool {
			if is, e := IsPerfect(g, p); is != perfect(g, p) || e != api.OK {
				t.Fatal(p)
			}
			if perfect(g, p) {
				order, found = p, true
			}
			return !found
		})
		if o, is := PerfectOrder(g); is != found || !slices.Equal(o, order) {
			t.Fatal(o, order)
		}
		want := leastHole(g)
		if h, is := Hole(g); is != (want != nil) || is == found || !slices.Equal(h, want) {
			t.Fatal(h, want)
		}
		for s := range g.VertexSet().Subsets() {
			if IsClique(g, s) != pairwise(g, s) || IsClique(g, s.With(1000)) {
				t.Fatal(s)
			}
		}
		for v := range 9 {
			_, is := g.Vertex(v)
			if IsSimplicial(g, v) != (is && pairwise(g, g.Neighbors(v))) {
				t.Fatal(v)
			}
		}
		checkCliques(t, g, found)
	}
}

func checkCliques(t *testing.T, g *graph.Graph, chordal bool) {
	l, e := MaximalCliques(g)
	parents, common, f := CliqueTree(g)
	number, colors, h := Coloring(g)
	if !chordal {
		if e != api.ErrFormat || f != e || h != e || l != nil || parents != nil || common != nil || number != 0 || colors != nil {
			t.Fatal(e, f, h)
		}
		return
	}
	var want []bitset.Set
	largest := 0
	for s := range g.VertexSet().Subsets() {
		maximal := !s.IsEmpty() && pairwise(g, s)
		for v := range g.VertexSet().Minus(s).All() {
			maximal = maximal && !pairwise(g, s.With(v))
		}
		if maximal {
			want = append(want, s)
			largest = max(largest, s.Len())
		}
	}
	if e != api.OK || f != api.OK || h != api.OK || !slices.Equal(l, want) || number != largest || len(parents) != len(l) || len(common) != len(l) {
		t.Fatal(l, want, number)
	}
	checkTree(t, l, parents, common)
	vs := g.VertexSet().Elements()
	for _, x := range g.Edges() {
		if colors[slices.Index(vs, x.U)] == colors[slices.Index(vs, x.V)] {
			t.Fatal(colors)
		}
	}
	order, _ := PerfectOrder(g)
	for i := len(order) - 1; i >= 0; i-- {
		v := order[i]
		var used bitset.Set
		for _, w := range order[i+1:] {
			if g.Neighbors(v).Has(w) {
				used = used.With(colors[slices.Index(vs, w)])
			}
		}
		if c := colors[slices.Index(vs, v)]; used.Has(c) || !bitset.Below(c).SubsetOf(used) {
			t.Fatal(colors)
		}
	}
}

// checkTree builds the clique tree step by step.
func checkTree(t *testing.T, l []bitset.Set, parents []int, common []bitset.Set) {
	if len(l) == 0 {
		return
	}
	in := bitset.Of(0)
	if parents[0] != -1 || !common[0].IsEmpty() {
		t.Fatal(parents)
	}
	for in.Len() < len(l) {
		bi, bj, size := -1, -1, -1
		for j := range l {
			for i := range in.All() {
				if s := l[i].Intersect(l[j]).Len(); !in.Has(j) && s > size {
					bi, bj, size = i, j, s
				}
			}
		}
		if parents[bj] != bi || common[bj] != l[bi].Intersect(l[bj]) {
			t.Fatal(l, parents)
		}
		in = in.With(bj)
	}
}

func TestExamplesAndNil(t *testing.T) {
	p := sample.Path(3)
	parents, common, _ := CliqueTree(p)
	number, colors, _ := Coloring(p)
	if !slices.Equal(parents, []int{-1, 0}) || common[1] != bitset.Of(1) || number != 2 || !slices.Equal(colors, []int{0, 1, 0}) {
		t.Error(parents, common, number, colors)
	}
	if h, is := Hole(sample.Cycle(1000)); !is || len(h) != 1000 || h[1] != 1 {
		t.Error(len(h))
	}
	for _, o := range [][]int{{0, 1}, {0, 1, 1}, {0, 1, 3}, {0, 1, 2, 2}} {
		if is, e := IsPerfect(p, o); is || e != api.ErrFormat {
			t.Error(o)
		}
	}
	for _, g := range []*graph.Graph{nil, graph.New()} {
		o, is := PerfectOrder(g)
		h, has := Hole(g)
		l, e := MaximalCliques(g)
		p, c, f := CliqueTree(g)
		n, colors, k := Coloring(g)
		fine, q := IsPerfect(g, nil)
		if len(o) != 0 || !is || len(h) != 0 || has || !IsClique(g, bitset.Set{}) || IsClique(g, bitset.Of(1)) || IsSimplicial(g, 0) || len(l) != 0 || e != api.OK || len(p)+len(c) != 0 || f != api.OK || n != 0 || len(colors) != 0 || k != api.OK || !fine || q != api.OK {
			t.Error("empty")
		}
	}
}
