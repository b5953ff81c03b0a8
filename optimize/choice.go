package optimize

import (
	"iter"

	"palmette/bitset"
	"palmette/graph"
	"palmette/semiring"
	"palmette/weighted"
)

// choice is the optimal assignment of the elements seen so far, with its cost. The assignment is built lazily, because
// most choices are discarded: it consists of one element, or of those of two parts, which have no element in common.
type choice struct {
	cost   semiring.Cost
	chosen *chosen
	tracks int
}

// chosen is a set of chosen elements: an element of a track, or two parts, of which each may be nil.
type chosen struct {
	track, element int
	left, right    *chosen
}

// elements iterates over the chosen elements, each with its track.
func (c *chosen) elements() iter.Seq2[int, int] {
	return func(yield func(track, element int) bool) {
		for parts := []*chosen{c}; len(parts) > 0; {
			x := parts[len(parts)-1]
			parts = parts[:len(parts)-1]
			switch {
			case x == nil:
			case x.left != nil || x.right != nil:
				parts = append(parts, x.right, x.left)
			case !yield(x.track, x.element):
				return
			}
		}
	}
}

// sets returns the chosen elements of each track.
func (c choice) sets() []bitset.Set {
	sets := make([]bitset.Set, c.tracks)
	for track, element := range c.chosen.elements() {
		sets[track] = sets[track].With(element)
	}
	return sets
}

// choices is the semiring of optimal assignments. Among equal costs, Add keeps the smaller assignment. This is
// compatible with Mul, because the order of two sets does not change if both receive the same new elements.
type choices struct {
	costs  semiring.Semiring[semiring.Cost]
	tracks int
}

// Zero returns the choice that is impossible.
func (r choices) Zero() choice { return choice{cost: r.costs.Zero(), tracks: r.tracks} }

// One returns the choice of no elements.
func (r choices) One() choice { return choice{cost: r.costs.One(), tracks: r.tracks} }

// Add returns the better choice.
func (r choices) Add(a, b choice) choice {
	switch {
	case !r.costs.Same(a.cost, b.cost):
		if r.costs.Same(r.costs.Add(a.cost, b.cost), a.cost) {
			return a
		}
		return b
	case a.chosen == b.chosen || !a.cost.Finite || bitset.CompareSlices(a.sets(), b.sets()) <= 0:
		return a
	}
	return b
}

// Mul returns the combination of two choices of different elements.
func (r choices) Mul(a, b choice) choice {
	c := choice{cost: r.costs.Mul(a.cost, b.cost), tracks: r.tracks}
	switch {
	case !c.cost.Finite:
	case a.chosen == nil:
		c.chosen = b.chosen
	case b.chosen == nil:
		c.chosen = a.chosen
	default:
		c.chosen = &chosen{left: a.chosen, right: b.chosen}
	}
	return c
}

// Same reports whether two choices are the same.
func (r choices) Same(a, b choice) bool {
	return r.costs.Same(a.cost, b.cost) && (!a.cost.Finite || a.chosen == b.chosen || bitset.CompareSlices(a.sets(), b.sets()) == 0)
}

// recorded is a weighting that records which elements are chosen.
type recorded struct {
	ring  choices
	base  weighted.Weighting[semiring.Cost]
	index map[[2]int]int // of edges
}

func (w recorded) record(cost semiring.Cost, track, element int, in bool) choice {
	c := choice{cost: cost, tracks: w.ring.tracks}
	if in {
		c.chosen = &chosen{track: track, element: element}
	}
	return c
}

// Vertex returns the choice of a vertex.
func (w recorded) Vertex(track int, v graph.Vertex, in bool) choice {
	return w.record(w.base.Vertex(track, v, in), track, v.Id, in)
}

// Edge returns the choice of an edge.
func (w recorded) Edge(track int, x graph.Edge, in bool) choice {
	return w.record(w.base.Edge(track, x, in), track, w.index[[2]int{x.U, x.V}], in)
}
