// Package bfs searches graphs breadth-first, layer by layer.
package bfs

import (
	"palmette/bitset"
	"palmette/graph"
)

// Layers returns the sets of vertices at distance 0, 1 and so on from a vertex, in the subgraph induced by within.
func Layers(g *graph.Graph, from int, within bitset.Set) []bitset.Set {
	if !within.Has(from) {
		return nil
	}
	var done []bitset.Set
	rest := within.Without(from)
	for queue := []bitset.Set{bitset.Of(from)}; len(queue) > 0; queue = queue[1:] {
		done = append(done, queue[0])
		var next bitset.Set
		for v := range queue[0].All() {
			next = next.Union(g.Neighbors(v).Intersect(rest))
		}
		rest = rest.Minus(next)
		if !next.IsEmpty() {
			queue = append(queue, next)
		}
	}
	return done
}

// Reached returns all vertices that a vertex reaches in the subgraph induced by within.
func Reached(g *graph.Graph, from int, within bitset.Set) bitset.Set {
	return Union(Layers(g, from, within))
}

// Union returns the union of sets.
func Union(l []bitset.Set) bitset.Set {
	var r bitset.Set
	for _, s := range l {
		r = r.Union(s)
	}
	return r
}

// Descend returns the smallest path from a vertex through the layers, from the last one to the first.
func Descend(g *graph.Graph, from int, back []bitset.Set) []int {
	l := []int{from}
	for i := len(back) - 1; i >= 0; i-- {
		from, _ = g.Neighbors(from).Intersect(back[i]).Min()
		l = append(l, from)
	}
	return l
}
