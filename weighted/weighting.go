package weighted

import (
	"palmette/graph"
	"palmette/semiring"
)

// Weighting assigns semiring elements to the elements of a graph, for each free track.
type Weighting[T any] interface {
	Vertex(track int, v graph.Vertex, in bool) T
	Edge(track int, e graph.Edge, in bool) T
}

// Constraint requires an element to be in, or not in, the set of a track: the vertex U (V is -1), or the edge between U and V.
type Constraint struct {
	Track, U, V int
	In          bool
}

// noVertex is the V of a constraint on a vertex.
const noVertex = -1

// Unit is the weighting that assigns One to everything.
type Unit[T any] struct{ R semiring.Semiring[T] }

func (p Unit[T]) one() T {
	if p.R == nil {
		var none T
		return none
	}
	return p.R.One()
}

// Vertex returns One.
func (p Unit[T]) Vertex(track int, v graph.Vertex, in bool) T { return p.one() }

// Edge returns One.
func (p Unit[T]) Edge(track int, e graph.Edge, in bool) T { return p.one() }

// ElementWeights is the weighting by the weights of the graph.
type ElementWeights struct{}

func cost(weight int, in bool) semiring.Cost {
	if !in {
		weight = 0
	}
	return semiring.Cost{Finite: true, Value: weight}
}

// Vertex returns the weight of v if it is in the set, and 0 otherwise.
func (ElementWeights) Vertex(track int, v graph.Vertex, in bool) semiring.Cost {
	return cost(v.Weight, in)
}

// Edge returns the weight of e if it is in the set, and 0 otherwise.
func (ElementWeights) Edge(track int, e graph.Edge, in bool) semiring.Cost {
	return cost(e.Weight, in)
}

// Constrained is a weighting that assigns Zero to elements that violate a constraint.
type Constrained[T any] struct {
	R           semiring.Semiring[T]
	Base        Weighting[T]
	Constraints []Constraint
}

// weight returns Zero if some constraint that concerns the element is violated, and otherwise what base returns.
func (p Constrained[T]) weight(concerns func(c Constraint) bool, in bool, base func() T) T {
	var none T
	if p.R == nil {
		return none
	}
	for _, c := range p.Constraints {
		if concerns(c) && c.In != in {
			return p.R.Zero()
		}
	}
	if p.Base == nil {
		return none
	}
	return base()
}

// Vertex returns Zero if v violates a constraint, and the value of Base otherwise.
func (p Constrained[T]) Vertex(track int, v graph.Vertex, in bool) T {
	return p.weight(func(c Constraint) bool {
		return c.Track == track && c.V == noVertex && c.U == v.Id
	}, in, func() T { return p.Base.Vertex(track, v, in) })
}

// Edge returns Zero if e violates a constraint, and the value of Base otherwise.
func (p Constrained[T]) Edge(track int, e graph.Edge, in bool) T {
	return p.weight(func(c Constraint) bool {
		return c.Track == track && (c.U == e.U && c.V == e.V || c.U == e.V && c.V == e.U)
	}, in, func() T { return p.Base.Edge(track, e, in) })
}
