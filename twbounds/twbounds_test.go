package twbounds

import (
	"math/rand"
	"slices"
	"testing"

	"palmette/bitset"
	"palmette/elimination"
	"palmette/graph"
	"palmette/sample"
	"palmette/treewidth"
)

// leastBy returns the least vertex with the least key.
func leastBy(g *graph.Graph, key func(v int) int) int {
	best, at := 1<<30, -1
	for v := range g.VertexSet().All() {
		if k := key(v); k < best {
			best, at = k, v
		}
	}
	return at
}

func link(g *graph.Graph, s bitset.Set) int {
	added := 0
	for a := range s.All() {
		for b := range s.All() {
			if a < b && g.Apply(graph.Edit{Op: graph.AddEdge, U: a, V: b}) == 0 {
				added++
			}
		}
	}
	return added
}

// simulate eliminates vertices with the least key in a copy of the graph.
func simulate(g *graph.Graph, fill bool) elimination.Order {
	var o elimination.Order
	rest := g.Clone()
	for n, _ := rest.Len(); n > 0; n-- {
		v := leastBy(rest, func(v int) int {
			if !fill {
				return rest.Neighbors(v).Len()
			}
			return link(rest.Clone(), rest.Neighbors(v))
		})
		link(rest, rest.Neighbors(v))
		rest.Apply(graph.Edit{Op: graph.RemoveVertex, U: v})
		o = append(o, v)
	}
	return o
}

// P22.1 to P22.3.
func TestRandomGraphs(t *testing.T) {
	r := rand.New(rand.NewSource(1))
	for range 150 {
		g := sample.Graph(r.Intn, r.Intn(10))
		n, m := g.Len()
		rest := g.Clone()
		most := -1
		var order elimination.Order
		for range n {
			v := leastBy(rest, func(v int) int { return rest.Neighbors(v).Len() })
			most = max(most, rest.Neighbors(v).Len())
			order = append(order, v)
			rest.Apply(graph.Edit{Op: graph.RemoveVertex, U: v})
		}
		if d, o := Degeneracy(g); d != most || !slices.Equal(o, order) {
			t.Fatal(d, most)
		}
		for k := -1; k < 9; k++ {
			if core := KCore(g, k); (len(core) > 0) != (n > 0 && k <= most) {
				t.Fatal(k, core)
			} else {
				s := bitset.Of(core...)
				for v := range s.All() {
					if g.Neighbors(v).Intersect(s).Len() < k {
						t.Fatal(core)
					}
				}
			}
		}
		checkContractions(t, g)
		if o := MinDegreeOrder(g); !slices.Equal(o, simulate(g, false)) {
			t.Fatal(o)
		}
		if o := MinFillOrder(g); !slices.Equal(o, simulate(g, true)) {
			t.Fatal(o)
		}
		exact, _, _ := treewidth.Width(g)
		upper, o := UpperBound(g)
		width, _ := elimination.Width(g, o)
		a, _ := elimination.Width(g, MinDegreeOrder(g))
		b, _ := elimination.Width(g, MinFillOrder(g))
		if LowerBound(g) > exact || upper < exact || width != upper || upper != min(a, b) || a <= b && !slices.Equal(o, MinDegreeOrder(g)) {
			t.Fatal(LowerBound(g), exact, upper)
		}
		best := []int{}
		for v := range g.VertexSet().All() {
			clique := bitset.Of(v)
			for u := 0; u < n; u++ {
				if !clique.Has(u) && clique.SubsetOf(g.Neighbors(u)) {
					clique, u = clique.With(u), -1
				}
			}
			if clique.Len() > len(best) {
				best = clique.Elements()
			}
		}
		if c := GreedyClique(g); !slices.Equal(c, best) {
			t.Fatal(c, best)
		}
		if exact <= 1 && m > 0 && (LowerBound(g) != 1 || upper != 1) {
			t.Fatal("forest")
		}
	}
}

func checkContractions(t *testing.T, g *graph.Graph) {
	rest := g.Clone()
	most := -1
	bound, l := ContractionDegeneracy(g)
	for _, c := range l {
		degree := func(v int) int { return rest.Neighbors(v).Len() }
		v := leastBy(rest, degree)
		near := rest.Neighbors(v)
		into := leastBy(rest.Induced(near), degree)
		if c != (Contraction{v, into}) {
			t.Fatal(c, v, into)
		}
		most = max(most, near.Len())
		for w := range near.All() {
			rest.Apply(graph.Edit{Op: graph.AddEdge, U: into, V: w})
		}
		rest.Apply(graph.Edit{Op: graph.RemoveVertex, U: v})
	}
	if n, _ := rest.Len(); n != 0 || bound != most {
		t.Fatal(bound, most)
	}
}

func TestKnownGraphs(t *testing.T) {
	c := sample.Cycle(5)
	d, _ := Degeneracy(c)
	k, _ := ContractionDegeneracy(c)
	u, o := UpperBound(c)
	if d != 2 || k != 2 || len(GreedyClique(c)) != 2 || LowerBound(c) != 2 || u != 2 || !slices.Equal(o, []int{0, 1, 2, 3, 4}) {
		t.Error(d, k, u, o)
	}
	full := sample.Complete(7)
	if u, _ := UpperBound(full); u != 6 || LowerBound(full) != 6 {
		t.Error(u)
	}
	three := graph.New()
	for i := range 3 {
		three.Apply(graph.Edit{Op: graph.AddVertex, U: i})
	}
	if u, _ := UpperBound(three); u != 0 || LowerBound(three) != 0 {
		t.Error(u)
	}
	for _, g := range []*graph.Graph{nil, graph.New()} {
		d, o := Degeneracy(g)
		k, l := ContractionDegeneracy(g)
		u, p := UpperBound(g)
		if d != -1 || k != -1 || u != -1 || LowerBound(g) != -1 || len(o)+len(l)+len(p)+len(GreedyClique(g))+len(MinDegreeOrder(g))+len(MinFillOrder(g))+len(KCore(g, -3)) != 0 {
			t.Error(d, k, u)
		}
	}
	if u, _ := UpperBound(sample.Cycle(1024)); u != 2 {
		t.Error(u)
	}
}
