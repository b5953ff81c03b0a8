package traversal

import (
	"slices"

	"palmette/bfs"
	"palmette/bitset"
	"palmette/graph"
)

// above returns the vertices from which a cycle with the smallest vertex v can be built.
func above(g *graph.Graph, v int) bitset.Set { return g.VertexSet().Minus(bitset.Below(v)) }

// shortestFrom returns the least length of a closed walk from the first layer's vertex that passes an edge within a
// layer (odd) or a vertex with two neighbors in the layer before (even), or 0. If no cycle is shorter, it is a cycle.
func shortestFrom(g *graph.Graph, l []bitset.Set, evenToo bool) int {
	found := 0
search:
	for d, layer := range l {
		for v := range layer.All() {
			if evenToo && d > 0 && g.Neighbors(v).Intersect(l[d-1]).Len() > 1 {
				found = 2 * d
				break search
			}
			if !g.Neighbors(v).Intersect(layer).IsEmpty() {
				found = 2*d + 1
			}
		}
		if found > 0 {
			break search
		}
	}
	return found
}

// firstShortest returns the length of the shortest cycles and the smallest vertex of the first one, or 0.
func firstShortest(g *graph.Graph, evenToo bool) (int, int) {
	best, start := 0, 0
	for v := range g.VertexSet().All() {
		n := shortestFrom(g, bfs.Layers(g, v, above(g, v)), evenToo)
		if n > 0 && (best == 0 || n < best) {
			best, start = n, v
		}
	}
	return best, start
}

// ShortestOddCycle returns the lexicographically smallest of the shortest odd cycles.
func ShortestOddCycle(g *graph.Graph) []int {
	n, start := firstShortest(g, false)
	if n == 0 {
		return nil
	}
	return smallestWalk(g, start, n)
}

// ShortestCycle returns the lexicographically smallest of the shortest cycles.
func ShortestCycle(g *graph.Graph) []int {
	n, start := firstShortest(g, true)
	switch {
	case n == 0:
		return nil
	case n%2 == 1:
		return smallestWalk(g, start, n)
	}
	return smallestEvenCycle(g, start, n)
}

// smallestWalk returns the smallest closed walk of n steps from its smallest vertex.
// It is a cycle if n is the least odd length, because a walk with a repetition contains a shorter odd one.
func smallestWalk(g *graph.Graph, start, n int) []int {
	within := above(g, start)
	back := []bitset.Set{bitset.Of(start)} // the vertices from which that many steps lead to start
	for range n - 1 {
		var next bitset.Set
		for v := range back[len(back)-1].All() {
			next = next.Union(g.Neighbors(v).Intersect(within))
		}
		back = append(back, next)
	}
	return bfs.Descend(g, start, back[1:])
}

// smallestEvenCycle returns the smallest cycle of the least length n, which is even, through its smallest vertex.
// Shortest paths of fewer than n/2 steps are unique, since two of them would form a shorter cycle.
func smallestEvenCycle(g *graph.Graph, start, n int) []int {
	l := bfs.Layers(g, start, above(g, start))[:n/2+1]
	var best []int
	for far := range l[n/2].All() {
		near := g.Neighbors(far).Intersect(l[n/2-1])
		for p := range near.All() {
			for q := range near.Without(p).All() {
				cycle := bfs.Descend(g, p, l[:n/2-1])
				slices.Reverse(cycle)
				cycle = append(append(cycle, far), bfs.Descend(g, q, l[1:n/2-1])...)
				if best == nil || slices.Compare(cycle, best) < 0 {
					best = cycle
				}
			}
		}
	}
	return best
}
