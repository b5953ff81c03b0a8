package treewidth

import (
	"math/rand"
	"slices"
	"testing"

	"palmette/api"
	"palmette/bitset"
	"palmette/elimination"
	"palmette/graph"
	"palmette/sample"
)

func permutations(l []int, take func([]int)) {
	var extend func(done, rest []int)
	extend = func(done, rest []int) {
		if len(rest) == 0 {
			take(done)
		}
		for i := range rest {
			extend(append(slices.Clip(done), rest[i]), append(slices.Clone(rest[:i]), rest[i+1:]...))
		}
	}
	extend(nil, l)
}

// P23.1 to P23.4 by trying all orders.
func TestSmallGraphs(t *testing.T) {
	r := rand.New(rand.NewSource(1))
	for range 60 {
		g := sample.Graph(r.Intn, r.Intn(7))
		best, order := 99, []int{}
		permutations(g.VertexSet().Elements(), func(o []int) {
			if w, _ := elimination.Width(g, o); w < best {
				best, order = w, o
			}
		})
		if w, o, e := Width(g); w != best || e != api.OK || !slices.Equal(o, order) {
			t.Fatal(w, o, best, order)
		}
		for k := -2; k < 7; k++ {
			if is, e := AtMost(g, k); is != (best <= k) || e != api.OK {
				t.Fatal(k)
			}
		}
		first := bitset.Of(r.Perm(8)[:4]...).Intersect(g.VertexSet())
		prefix := 99
		permutations(first.Elements(), func(o []int) {
			rest := g.VertexSet().Minus(first).Elements()
			steps, _ := elimination.Steps(g, append(slices.Clone(o), rest...))
			w := -1
			for _, s := range steps[:len(o)] {
				w = max(w, s.Neighbors.Len())
			}
			prefix = min(prefix, w)
		})
		if w, e := PrefixWidth(g, first); w != prefix || e != api.OK {
			t.Fatal(first, w, prefix)
		}
		for v := range g.VertexSet().Minus(first).All() {
			o := append(first.Elements(), v)
			for u := range g.VertexSet().Minus(first).Without(v).All() {
				o = append(o, u)
			}
			steps, _ := elimination.Steps(g, o)
			if got := Reachable(g, first.With(1000), v); got != steps[first.Len()].Neighbors {
				t.Fatal(got)
			}
		}
	}
}

func TestKnownGraphs(t *testing.T) {
	for i, x := range []struct {
		g    *graph.Graph
		want int
	}{{graph.New(), -1}, {sample.Path(1), 0}, {sample.Path(12), 1}, {sample.Cycle(12), 2}, {sample.Complete(12), 11}, {sample.Complete(5), 4}} {
		if w, o, e := Width(x.g); w != x.want || e != api.OK {
			t.Error(i, w, o)
		}
	}
	c := sample.Cycle(4)
	_, o, _ := Width(c)
	w, _ := PrefixWidth(c, bitset.Of(0, 2))
	if !slices.Equal(o, []int{0, 1, 2, 3}) || Reachable(c, bitset.Of(0), 1) != bitset.Of(2, 3) || w != 2 {
		t.Error(o, w)
	}
}

func TestErrors(t *testing.T) {
	for want, g := range map[api.Errno]*graph.Graph{api.ErrArgument: nil, api.ErrRange: sample.Path(13)} {
		if w, o, e := Width(g); w != 0 || o != nil || e != want {
			t.Error(e)
		}
		if w, e := PrefixWidth(g, bitset.Of(99)); w != 0 || e != want {
			t.Error(e)
		}
		if is, e := AtMost(g, 99); is || e != want {
			t.Error(e)
		}
	}
	if w, e := PrefixWidth(sample.Path(2), bitset.Of(2)); w != 0 || e != api.ErrNotFound {
		t.Error(e)
	}
	if w, e := PrefixWidth(sample.Path(2), bitset.Set{}); w != -1 || e != api.OK {
		t.Error(w)
	}
	if !Reachable(sample.Path(3), bitset.Of(1), 1).IsEmpty() || !Reachable(sample.Path(3), bitset.Set{}, 3).IsEmpty() || !Reachable(nil, bitset.Set{}, 0).IsEmpty() {
		t.Error("Reachable")
	}
}
