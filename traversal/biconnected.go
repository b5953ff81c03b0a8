package traversal

import (
	"slices"

	"palmette/bitset"
	"palmette/graph"
)

// blocks returns the vertex sets of the biconnected components that a depth-first search from a vertex finds.
func blocks(g *graph.Graph, root int, number map[int]int) []bitset.Set {
	var found []bitset.Set
	var stack []int
	var visit func(v, parent int) int
	visit = func(v, parent int) int {
		number[v] = len(number)
		low := number[v]
		stack = append(stack, v)
		for w := range g.Neighbors(v).All() {
			if n, seen := number[w]; seen {
				low = min(low, n)
				continue
			}
			reached := visit(w, v)
			low = min(low, reached)
			if reached >= number[v] {
				// What was pushed since w cannot get above v, so it forms a component with v.
				at := slices.Index(stack, w)
				found = append(found, bitset.Of(stack[at:]...).With(v))
				stack = stack[:at]
			}
		}
		return low
	}
	visit(root, -1)
	if len(found) == 0 {
		found = append(found, bitset.Of(root))
	}
	return found
}

// BiconnectedComponents returns all biconnected components, ordered lexicographically.
func BiconnectedComponents(g *graph.Graph) [][]int {
	var l [][]int
	number := map[int]int{}
	for v := range g.VertexSet().All() {
		if _, seen := number[v]; seen {
			continue
		}
		for _, block := range blocks(g, v, number) {
			l = append(l, block.Elements())
		}
	}
	slices.SortFunc(l, slices.Compare[[]int])
	return l
}

// Bridges returns all bridges in the order of edges.
func Bridges(g *graph.Graph) [][2]int {
	var l [][2]int
	for _, block := range BiconnectedComponents(g) {
		if len(block) == 2 {
			l = append(l, [2]int{block[0], block[1]})
		}
	}
	return l
}

// CutVertices returns all vertices that belong to several biconnected components, in increasing order.
func CutVertices(g *graph.Graph) []int {
	var once, twice bitset.Set
	for _, block := range BiconnectedComponents(g) {
		s := bitset.Of(block...)
		twice = twice.Union(once.Intersect(s))
		once = once.Union(s)
	}
	return twice.Elements()
}
