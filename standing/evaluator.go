package standing

import (
	"strconv"

	"palmette/api"
	"palmette/bignat"
	"palmette/dyndecomp"
	"palmette/frame"
	"palmette/graph"
	"palmette/kernel"
	"palmette/semiring"
	"palmette/weighted"
)

// evaluator maintains the answer to a query, whatever the semiring is. It is immutable.
type evaluator interface {
	answer() string
	edit(e graph.Edit) (evaluator, api.Errno)
}

// live is an evaluator in a semiring.
type live[T any] struct {
	values *dyndecomp.Evaluator[T]
	format func(T) string
}

func (l live[T]) answer() string { return l.format(l.values.Answer()) }

// edit changes the frame exactly if the monitor does, since both start with the same one.
func (l live[T]) edit(e graph.Edit) (evaluator, api.Errno) {
	next, _, err := l.values.EditAny(e)
	return live[T]{next, l.format}, err
}

func start[T any](g *graph.Graph, f *frame.Frame, k kernel.Kernel, r semiring.Semiring[T], s weighted.Weighting[T], format func(T) string) (evaluator, api.Errno) {
	values, e := dyndecomp.New(g, f, k, r, s)
	return live[T]{values, format}, e
}

func costText(c semiring.Cost) string {
	if !c.Finite {
		return "none"
	}
	return strconv.Itoa(c.Value)
}

// newEvaluator returns an evaluator for a kind of query.
func newEvaluator(g *graph.Graph, f *frame.Frame, k kernel.Kernel, kind int) (evaluator, api.Errno) {
	switch kind {
	case Exists:
		var r semiring.Boolean
		return start[bool](g, f, k, r, weighted.Unit[bool]{R: r}, strconv.FormatBool)
	case Count:
		var r semiring.Natural
		return start[bignat.Nat](g, f, k, r, weighted.Unit[bignat.Nat]{R: r}, bignat.Nat.String)
	case Min:
		return start[semiring.Cost](g, f, k, semiring.MinPlus{}, weighted.ElementWeights{}, costText)
	}
	return start[semiring.Cost](g, f, k, semiring.MaxPlus{}, weighted.ElementWeights{}, costText)
}
