package traversal

import (
	"math/rand"
	"reflect"
	"slices"
	"testing"

	"palmette/bitset"
	"palmette/graph"
)

func build(n int, es ...[2]int) *graph.Graph {
	g := graph.New()
	for i := range n {
		g.Apply(graph.Edit{Op: graph.AddVertex, U: i})
	}
	for _, x := range es {
		g.Apply(graph.Edit{Op: graph.AddEdge, U: x[0], V: x[1]})
	}
	return g
}

func random(r *rand.Rand, most int) *graph.Graph {
	n := r.Intn(most + 1)
	g := build(n)
	for range r.Intn(2*n + 1) {
		g.Apply(graph.Edit{Op: graph.AddEdge, U: r.Intn(n), V: r.Intn(n)})
	}
	if n > 2 {
		g.Apply(graph.Edit{Op: graph.RemoveVertex, U: r.Intn(n)})
	}
	return g
}

// simplePaths calls take for each path that starts with the given vertices.
func simplePaths(g *graph.Graph, path []int, take func([]int)) {
	take(path)
	for w := range g.Neighbors(path[len(path)-1]).All() {
		if !slices.Contains(path, w) {
			simplePaths(g, append(slices.Clip(path), w), take)
		}
	}
}

// cycles returns all cycles in the form of the document, in lexicographic order.
func cycles(g *graph.Graph) [][]int {
	var l [][]int
	for v := range g.VertexSet().All() {
		simplePaths(g, []int{v}, func(p []int) {
			if len(p) > 2 && slices.Min(p) == v && p[1] < p[len(p)-1] && g.Neighbors(v).Has(p[len(p)-1]) {
				l = append(l, slices.Clone(p))
			}
		})
	}
	return l
}

func shortest(l [][]int, odd bool) []int {
	var best []int
	for _, c := range l {
		if (!odd || len(c)%2 == 1) && (best == nil || len(c) < len(best)) {
			best = c
		}
	}
	return best
}

func removeEdge(g *graph.Graph, u, v int) *graph.Graph {
	h := g.Clone()
	h.Apply(graph.Edit{Op: graph.RemoveEdge, U: u, V: v})
	return h
}

// P7.1 to P7.6 by exhaustive search over paths.
func TestRandomGraphs(t *testing.T) {
	r := rand.New(rand.NewSource(1))
	for range 300 {
		g := random(r, 7)
		checkDistances(t, g)
		all := cycles(g)
		if c := ShortestCycle(g); !slices.Equal(c, shortest(all, false)) {
			t.Fatal(c, shortest(all, false))
		}
		if c := ShortestOddCycle(g); !slices.Equal(c, shortest(all, true)) {
			t.Fatal(c, shortest(all, true))
		}
		side, is := Bipartition(g)
		if is != (shortest(all, true) == nil) {
			t.Fatal("Bipartition")
		}
		s := bitset.Of(side...)
		for _, x := range g.Edges() {
			if is && s.Has(x.U) == s.Has(x.V) {
				t.Fatal(side)
			}
		}
		for _, part := range Components(g) {
			if is && !s.Has(part[0]) {
				t.Fatal(side)
			}
		}
		checkBlocks(t, g, all)
		forest := build(8, SpanningForest(g)...)
		n, m := g.Len()
		if len(SpanningForest(g)) != n-len(Components(g)) || m > 0 && len(SpanningForest(g)) == 0 || len(cycles(forest)) > 0 {
			t.Fatal("SpanningForest")
		}
		for _, b := range Bridges(g) {
			if !slices.Contains(SpanningForest(g), b) {
				t.Fatal("forest without bridge")
			}
		}
	}
}

func checkDistances(t *testing.T, g *graph.Graph) {
	n, _ := g.Len()
	most := -1
	connected := true
	for a := range 8 {
		for b := range 8 {
			var best []int
			if _, is := g.Vertex(a); is {
				simplePaths(g, []int{a}, func(p []int) {
					if p[len(p)-1] == b && (best == nil || len(p) < len(best)) {
						best = slices.Clone(p)
					}
				})
			}
			if d := Distance(g, a, b); d != len(best)-1 {
				t.Fatal(a, b, d)
			}
			if p := ShortestPath(g, a, b); !slices.Equal(p, best) {
				t.Fatal(p, best)
			}
			if Connected(g, a, b) != (best != nil) {
				t.Fatal(a, b)
			}
			_, isA := g.Vertex(a)
			_, isB := g.Vertex(b)
			if isA && isB {
				connected = connected && best != nil
				most = max(most, len(best)-1)
			}
		}
	}
	if !connected || n == 0 {
		most = -1
	}
	if d := Diameter(g); d != most {
		t.Fatal(d, most)
	}
}

func checkBlocks(t *testing.T, g *graph.Graph, all [][]int) {
	parts := len(Components(g))
	var bridges [][2]int
	for _, x := range g.Edges() {
		if len(Components(removeEdge(g, x.U, x.V))) > parts {
			bridges = append(bridges, [2]int{x.U, x.V})
		}
	}
	if !reflect.DeepEqual(Bridges(g), bridges) {
		t.Fatal(Bridges(g), bridges)
	}
	var cuts []int
	n, _ := g.Len()
	for v := range g.VertexSet().All() {
		if len(Components(g.Induced(g.VertexSet().Without(v)))) > parts {
			cuts = append(cuts, v)
		}
	}
	if !slices.Equal(CutVertices(g), cuts) {
		t.Fatal(CutVertices(g), cuts)
	}
	blocks := BiconnectedComponents(g)
	sum := 0
	for i, b := range blocks {
		sum += len(b) - 1
		if !slices.IsSorted(b) || i > 0 && slices.Compare(blocks[i-1], b) >= 0 {
			t.Fatal(blocks)
		}
	}
	if sum != n-parts {
		t.Fatal(blocks)
	}
	for _, c := range all {
		if !slices.ContainsFunc(blocks, func(b []int) bool { return bitset.Of(c...).SubsetOf(bitset.Of(b...)) }) {
			t.Fatal(c, blocks)
		}
	}
}

func TestExample(t *testing.T) {
	g := build(6, [2]int{1, 2}, [2]int{2, 3}, [2]int{3, 4}, [2]int{1, 4}, [2]int{4, 5})
	g.Apply(graph.Edit{Op: graph.RemoveVertex, U: 0})
	side, is := Bipartition(g)
	if len(Components(g)) != 1 || !reflect.DeepEqual(Bridges(g), [][2]int{{4, 5}}) || !slices.Equal(CutVertices(g), []int{4}) || !reflect.DeepEqual(BiconnectedComponents(g), [][]int{{1, 2, 3, 4}, {4, 5}}) || !slices.Equal(side, []int{1, 3, 5}) || !is || !slices.Equal(ShortestCycle(g), []int{1, 2, 3, 4}) || len(ShortestOddCycle(g)) != 0 || !slices.Equal(ShortestPath(g, 2, 4), []int{2, 1, 4}) {
		t.Error("example")
	}
}

func TestLargeAndNil(t *testing.T) {
	ring := build(1024)
	for i := range 1024 {
		ring.Apply(graph.Edit{Op: graph.AddEdge, U: i, V: (i + 1) % 1024})
	}
	if c := ShortestCycle(ring); len(c) != 1024 || c[1] != 1 || Diameter(ring) != 512 || len(BiconnectedComponents(ring)) != 1 {
		t.Error(len(c))
	}
	side, is := Bipartition(nil)
	if Components(nil) != nil || Connected(nil, 0, 0) || Distance(nil, 0, 0) != -1 || len(ShortestPath(nil, 0, 0)) != 0 || Diameter(nil) != -1 || len(Bridges(nil)) != 0 || len(CutVertices(nil)) != 0 || len(BiconnectedComponents(nil)) != 0 || len(side) != 0 || !is || len(ShortestOddCycle(nil)) != 0 || len(ShortestCycle(nil)) != 0 || len(SpanningForest(nil)) != 0 {
		t.Error("nil")
	}
	if Distance(ring, -1, -1) != -1 || Distance(ring, 1024, 0) != -1 || Distance(ring, 5, 5) != 0 || !slices.Equal(ShortestPath(ring, 5, 5), []int{5}) || len(BiconnectedComponents(build(2))) != 2 {
		t.Error("single")
	}
}
