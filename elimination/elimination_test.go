package elimination

import (
	"math/rand"
	"slices"
	"testing"

	"palmette/api"
	"palmette/bitset"
	"palmette/graph"
	"palmette/sample"
)

// P21.2 and P21.3 by eliminating vertices in a copy of the graph.
func TestRandomOrders(t *testing.T) {
	r := rand.New(rand.NewSource(1))
	for range 300 {
		n := r.Intn(9)
		g := sample.Graph(r.Intn, n)
		o := Order(r.Perm(n))
		rest, full := g.Clone(), g.Clone()
		steps, e := Steps(g, o)
		higher, f := HigherNeighbors(g, o)
		parents, h := Parents(g, o)
		width := -1
		if e != api.OK || f != api.OK || h != api.OK || len(steps) != n {
			t.Fatal(e, f, h)
		}
		for i, v := range o {
			near := rest.Neighbors(v)
			if steps[i] != (Step{v, near}) || higher[i] != near {
				t.Fatal(i, steps[i], near)
			}
			width = max(width, near.Len())
			parent := slices.IndexFunc(o, near.Has)
			if parents[i] != parent {
				t.Fatal(parents, i)
			}
			for a := range near.All() {
				for b := range near.All() {
					rest.Apply(graph.Edit{Op: graph.AddEdge, U: a, V: b})
					full.Apply(graph.Edit{Op: graph.AddEdge, U: a, V: b})
				}
			}
			rest.Apply(graph.Edit{Op: graph.RemoveVertex, U: v})
		}
		if w, e := Width(g, o); w != width || e != api.OK {
			t.Fatal(w, width)
		}
		filled, e := FilledGraph(g, o)
		if e != api.OK || !filled.Equal(full) {
			t.Fatal("filled")
		}
		fill, _ := Fill(g, o)
		_, m := g.Len()
		if _, k := full.Len(); len(fill) != k-m {
			t.Fatal("fill")
		}
		for _, x := range fill {
			if _, _, is := g.Edge(x.U, x.V); is || x.Label != 0 || x.Weight != 0 || x.U >= x.V {
				t.Fatal(x)
			}
		}
		if again, _ := Fill(filled, o); len(again) != 0 {
			t.Fatal("fill of filled")
		}
		if w, _ := Width(filled, o); w != width {
			t.Fatal("width of filled")
		}
		height, _ := Height(g, o)
		most := 0
		for i := range o {
			k := 1
			for p := parents[i]; p >= 0; p = parents[p] {
				k++
			}
			most = max(most, k)
		}
		if height != most || !slices.Equal(o.Reversed().Reversed(), o) || n > 0 && o.Reversed()[0] != o[n-1] {
			t.Fatal(height, most)
		}
	}
}

func TestExample(t *testing.T) {
	g, o := sample.Cycle(4), Order{0, 1, 2, 3}
	steps, _ := Steps(g, o)
	fill, _ := Fill(g, o)
	parents, _ := Parents(g, o)
	width, _ := Width(g, o)
	height, _ := Height(g, o)
	if steps[0].Neighbors != bitset.Of(1, 3) || steps[1].Neighbors != bitset.Of(2, 3) || !slices.Equal(fill, []graph.Edge{{U: 1, V: 3}}) || !slices.Equal(parents, []int{1, 2, 3, -1}) || width != 2 || height != 4 {
		t.Error(steps, fill, parents, width, height)
	}
	if w, e := Width(graph.New(), nil); w != -1 || e != api.OK {
		t.Error(w)
	}
	if h, e := Height(graph.New(), Order{}); h != 0 || e != api.OK {
		t.Error(h)
	}
	star := sample.Path(60)
	for i := range 60 {
		star.Apply(graph.Edit{Op: graph.AddEdge, U: 0, V: i})
	}
	all := Order{0}
	for i := 1; i < 60; i++ {
		all = append(all, i)
	}
	if f, e := FilledGraph(star, all); f != nil || e != api.ErrLimit {
		t.Error(e)
	}
	if l, e := HigherNeighbors(star, all); len(l) != 60 || e != api.OK {
		t.Error(e)
	}
}

// P21.1.
func TestErrors(t *testing.T) {
	g := sample.Path(3)
	for _, x := range []struct {
		g    *graph.Graph
		o    Order
		want api.Errno
	}{{nil, Order{0}, api.ErrArgument}, {g, Order{0, 1}, api.ErrFormat}, {g, Order{0, 1, 1}, api.ErrFormat}, {g, Order{0, 1, 3}, api.ErrFormat}, {g, Order{0, 1, 2, 2}, api.ErrFormat}, {g, Order{0, 1, -1}, api.ErrFormat}} {
		steps, e0 := Steps(x.g, x.o)
		width, e1 := Width(x.g, x.o)
		fill, e2 := Fill(x.g, x.o)
		filled, e3 := FilledGraph(x.g, x.o)
		higher, e4 := HigherNeighbors(x.g, x.o)
		parents, e5 := Parents(x.g, x.o)
		height, e6 := Height(x.g, x.o)
		for _, e := range []api.Errno{x.o.Check(x.g), e0, e1, e2, e3, e4, e5, e6} {
			if e != x.want {
				t.Error(x.o, e)
			}
		}
		if steps != nil || width != 0 || fill != nil || filled != nil || higher != nil || parents != nil || height != 0 {
			t.Error(x.o)
		}
	}
	if len(Order(nil).Reversed()) != 0 {
		t.Error("Reversed")
	}
}
