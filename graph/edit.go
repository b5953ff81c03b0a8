package graph

import (
	"palmette/api"
	"palmette/bitset"
)

// Edit operations.
const (
	AddVertex       = 0 // adds vertex U with Label and Weight
	RemoveVertex    = 1 // removes vertex U and its edges
	AddEdge         = 2 // adds the edge between U and V with Label and Weight
	RemoveEdge      = 3 // removes that edge
	SetVertexLabel  = 4 // replaces the label mask of vertex U
	SetVertexWeight = 5 // replaces the weight of vertex U
	SetEdgeLabel    = 6 // replaces the label mask of the edge between U and V
	SetEdgeWeight   = 7 // replaces the weight of that edge
	EditKinds       = 8
)

// Edit is a modification of a graph.
type Edit struct {
	Op, U, V int
	Label    uint8
	Weight   int
}

func (e Edit) onEdge() bool {
	return e.Op == AddEdge || e.Op == RemoveEdge || e.Op == SetEdgeLabel || e.Op == SetEdgeWeight
}

func (e Edit) usesWeight() bool {
	return e.Op == AddVertex || e.Op == AddEdge || e.Op == SetVertexWeight || e.Op == SetEdgeWeight
}

func isId(n int) bool { return n >= 0 && n < bitset.MaxElements }

// check returns the error of an edit.
func (g *Graph) check(e Edit) api.Errno {
	_, hasU := g.vertices[e.U]
	_, hasV := g.vertices[e.V]
	_, hasEdge := g.edges[pairOf(e.U, e.V)]
	checks := []struct {
		fails func() bool
		error api.Errno
	}{
		{func() bool { return e.Op < 0 || e.Op >= EditKinds }, api.ErrKind},
		{func() bool { return !isId(e.U) || e.onEdge() && !isId(e.V) }, api.ErrRange},
		{func() bool { return e.usesWeight() && (e.Weight < -MaxWeight || e.Weight > MaxWeight) }, api.ErrRange},
		{func() bool { return e.onEdge() && e.U == e.V }, api.ErrLoop},
		{func() bool { return e.Op == AddVertex && hasU }, api.ErrDuplicate},
		{func() bool { return e.Op != AddVertex && !e.onEdge() && !hasU }, api.ErrNotFound},
		{func() bool { return e.Op == AddEdge && !(hasU && hasV) }, api.ErrNotFound},
		{func() bool { return e.Op != AddEdge && e.onEdge() && !hasEdge }, api.ErrNotFound},
		{func() bool { return e.Op == AddEdge && hasEdge }, api.ErrDuplicate},
		{func() bool { return e.Op == AddEdge && len(g.edges) >= MaxEdges }, api.ErrLimit},
	}
	for _, c := range checks {
		if c.fails() {
			return c.error
		}
	}
	return api.OK
}

// operation tells how to perform an edit without errors, and which edits undo it.
type operation struct {
	perform func(*Graph, Edit)
	inverse func(*Graph, Edit) []Edit
}

func operationOf(op int) operation {
	table := [EditKinds]operation{
		AddVertex:       {(*Graph).putVertex, (*Graph).undoAddVertex},
		RemoveVertex:    {(*Graph).removeVertex, (*Graph).undoRemoveVertex},
		AddEdge:         {(*Graph).putEdge, (*Graph).undoAddEdge},
		RemoveEdge:      {(*Graph).removeEdge, (*Graph).undoRemoveEdge},
		SetVertexLabel:  {(*Graph).setVertex, (*Graph).undoSetVertex},
		SetVertexWeight: {(*Graph).setVertex, (*Graph).undoSetVertex},
		SetEdgeLabel:    {(*Graph).setEdge, (*Graph).undoSetEdge},
		SetEdgeWeight:   {(*Graph).setEdge, (*Graph).undoSetEdge},
	}
	return table[op]
}

// Apply performs an edit.
func (g *Graph) Apply(e Edit) api.Errno {
	if g == nil {
		return api.ErrArgument
	}
	if err := g.check(e); err != api.OK {
		return err
	}
	operationOf(e.Op).perform(g, e)
	return api.OK
}

// Inverse returns the edits that undo an edit.
func (g *Graph) Inverse(e Edit) ([]Edit, api.Errno) {
	if g == nil {
		return nil, api.ErrArgument
	}
	if err := g.check(e); err != api.OK {
		return nil, err
	}
	return operationOf(e.Op).inverse(g, e), api.OK
}

func (g *Graph) putVertex(e Edit) {
	g.vertices[e.U] = Vertex{e.U, e.Label, e.Weight}
}

func (g *Graph) undoAddVertex(e Edit) []Edit { return []Edit{{Op: RemoveVertex, U: e.U}} }

func (g *Graph) removeVertex(e Edit) {
	for v := range g.adjacent[e.U].All() {
		g.removeEdge(Edit{U: e.U, V: v})
	}
	delete(g.vertices, e.U)
	delete(g.adjacent, e.U)
}

func (g *Graph) undoRemoveVertex(e Edit) []Edit {
	v := g.vertices[e.U]
	l := []Edit{{Op: AddVertex, U: v.Id, Label: v.Label, Weight: v.Weight}}
	for _, x := range g.Edges() {
		if x.U == e.U || x.V == e.U {
			l = append(l, Edit{AddEdge, x.U, x.V, x.Label, x.Weight})
		}
	}
	return l
}

func (g *Graph) putEdge(e Edit) {
	p := pairOf(e.U, e.V)
	g.edges[p] = Edge{p.u, p.v, e.Label, e.Weight}
	g.adjacent[e.U] = g.adjacent[e.U].With(e.V)
	g.adjacent[e.V] = g.adjacent[e.V].With(e.U)
}

func (g *Graph) undoAddEdge(e Edit) []Edit {
	p := pairOf(e.U, e.V)
	return []Edit{{Op: RemoveEdge, U: p.u, V: p.v}}
}

func (g *Graph) removeEdge(e Edit) {
	delete(g.edges, pairOf(e.U, e.V))
	g.adjacent[e.U] = g.adjacent[e.U].Without(e.V)
	g.adjacent[e.V] = g.adjacent[e.V].Without(e.U)
}

func (g *Graph) undoRemoveEdge(e Edit) []Edit {
	x := g.edges[pairOf(e.U, e.V)]
	return []Edit{{AddEdge, x.U, x.V, x.Label, x.Weight}}
}

func (g *Graph) setVertex(e Edit) {
	v := g.vertices[e.U]
	if e.Op == SetVertexLabel {
		v.Label = e.Label
	} else {
		v.Weight = e.Weight
	}
	g.vertices[e.U] = v
}

func (g *Graph) undoSetVertex(e Edit) []Edit {
	r := Edit{Op: e.Op, U: e.U}
	if e.Op == SetVertexLabel {
		r.Label = g.vertices[e.U].Label
	} else {
		r.Weight = g.vertices[e.U].Weight
	}
	return []Edit{r}
}

func (g *Graph) setEdge(e Edit) {
	p := pairOf(e.U, e.V)
	x := g.edges[p]
	if e.Op == SetEdgeLabel {
		x.Label = e.Label
	} else {
		x.Weight = e.Weight
	}
	g.edges[p] = x
}

func (g *Graph) undoSetEdge(e Edit) []Edit {
	x := g.edges[pairOf(e.U, e.V)]
	r := Edit{Op: e.Op, U: x.U, V: x.V}
	if e.Op == SetEdgeLabel {
		r.Label = x.Label
	} else {
		r.Weight = x.Weight
	}
	return []Edit{r}
}
