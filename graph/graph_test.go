package graph

import (
	"math/rand"
	"reflect"
	"slices"
	"testing"

	"palmette/api"
	"palmette/bitset"
)

func path(ids ...int) *Graph {
	g := New()
	for i, id := range ids {
		g.Apply(Edit{Op: AddVertex, U: id})
		if i > 0 {
			g.Apply(Edit{Op: AddEdge, U: id, V: ids[i-1]})
		}
	}
	return g
}

// P5.1: the errors of edits, in order.
func TestErrors(t *testing.T) {
	g := path(1, 2, 3)
	before := g.Clone()
	for _, x := range []struct {
		e    Edit
		want api.Errno
	}{
		{Edit{Op: -1, U: -1}, api.ErrKind}, {Edit{Op: 8}, api.ErrKind},
		{Edit{Op: AddVertex, U: 1024}, api.ErrRange}, {Edit{Op: AddVertex, U: -1, Weight: 1 << 21}, api.ErrRange},
		{Edit{Op: AddVertex, U: 1, Weight: 1<<20 + 1}, api.ErrRange}, {Edit{Op: AddVertex, U: 1}, api.ErrDuplicate},
		{Edit{Op: RemoveVertex, U: 5, V: 7777, Weight: 1 << 30}, api.ErrNotFound},
		{Edit{Op: AddEdge, U: 1, V: 1024}, api.ErrRange}, {Edit{Op: AddEdge, U: 9, V: 9}, api.ErrLoop},
		{Edit{Op: AddEdge, U: 9, V: 9, Weight: -1<<20 - 1}, api.ErrRange}, {Edit{Op: AddEdge, U: 1, V: 9}, api.ErrNotFound},
		{Edit{Op: AddEdge, U: 9, V: 1}, api.ErrNotFound}, {Edit{Op: AddEdge, U: 3, V: 2}, api.ErrDuplicate},
		{Edit{Op: RemoveEdge, U: 1, V: 3, Weight: 1 << 30}, api.ErrNotFound}, {Edit{Op: RemoveEdge, U: 1, V: 1}, api.ErrLoop},
		{Edit{Op: SetVertexLabel, U: 9}, api.ErrNotFound}, {Edit{Op: SetVertexWeight, U: 1, Weight: 1 << 21}, api.ErrRange},
		{Edit{Op: SetEdgeLabel, U: 1, V: 3}, api.ErrNotFound}, {Edit{Op: SetEdgeLabel, U: 4, V: 4}, api.ErrLoop},
		{Edit{Op: SetEdgeWeight, U: 1, V: 2, Weight: -1 << 21}, api.ErrRange},
	} {
		if e := g.Apply(x.e); e != x.want {
			t.Error(x, e)
		}
		if l, e := g.Inverse(x.e); e != x.want || len(l) != 0 {
			t.Error(x, e)
		}
	}
	if !g.Equal(before) {
		t.Error("changed")
	}
	if g, e := Build([]Vertex{{Id: 1}, {Id: 2}}, []Edge{{U: 2, V: 1}, {U: 1, V: 2}, {U: 1, V: 1}}); g != nil || e != api.ErrDuplicate {
		t.Error(e)
	}
	if g, e := Build([]Vertex{{Id: 1}, {Id: 1}, {Id: -1}}, nil); g != nil || e != api.ErrDuplicate {
		t.Error(e)
	}
}

func TestEdgeLimit(t *testing.T) {
	g := New()
	for i := range 50 {
		g.Apply(Edit{Op: AddVertex, U: i})
	}
	n := 0
	for i := range 50 {
		for k := range i {
			want := api.OK
			if n >= MaxEdges {
				want = api.ErrLimit
			}
			if e := g.Apply(Edit{Op: AddEdge, U: i, V: k}); e != want {
				t.Fatal(n, e)
			}
			n++
		}
	}
	if _, m := g.Len(); m != MaxEdges || g.EdgeSet() != bitset.Below(MaxEdges) {
		t.Error(m)
	}
	if e := g.Apply(Edit{Op: AddEdge, U: 1, V: 0}); e != api.ErrDuplicate {
		t.Error(e)
	}
}

func randomEdit(r *rand.Rand) Edit {
	return Edit{r.Intn(EditKinds), r.Intn(7), r.Intn(7), uint8(r.Intn(4)), r.Intn(5) - 2}
}

// P5.2, P5.3 and P5.5 on random edits, against a plain model.
func TestRandomEdits(t *testing.T) {
	r := rand.New(rand.NewSource(1))
	for range 200 {
		g := New()
		for range 60 {
			e := randomEdit(r)
			before := g.Clone()
			undo, err := g.Inverse(e)
			if got := g.Apply(e); got != err {
				t.Fatal(e, got, err)
			}
			if err == api.OK {
				after := g.Clone()
				for _, x := range undo {
					if after.Apply(x) != api.OK {
						t.Fatal(e, undo)
					}
				}
				if !after.Equal(before) {
					t.Fatal(e, undo)
				}
			} else if !g.Equal(before) {
				t.Fatal(e)
			}
			checkLists(t, g)
		}
	}
}

func checkLists(t *testing.T, g *Graph) {
	vs, es := g.Vertices(), g.Edges()
	degrees := 0
	for _, v := range vs {
		if got, is := g.Vertex(v.Id); !is || got != v {
			t.Fatal(v)
		}
		degrees += g.Neighbors(v.Id).Len()
		for i := range g.IncidentEdges(v.Id).All() {
			if es[i].U != v.Id && es[i].V != v.Id {
				t.Fatal(i)
			}
		}
		if g.IncidentEdges(v.Id).Len() != g.Neighbors(v.Id).Len() {
			t.Fatal(v)
		}
	}
	for i, x := range es {
		got, at, is := g.Edge(x.V, x.U)
		if !is || got != x || at != i || x.U >= x.V || !g.Neighbors(x.U).Has(x.V) || !g.Neighbors(x.V).Has(x.U) {
			t.Fatal(x)
		}
	}
	n, m := g.Len()
	if n != len(vs) || m != len(es) || degrees != 2*m || g.VertexSet().Len() != n || g.EdgeSet() != bitset.Below(m) {
		t.Fatal(n, m)
	}
	slices.Reverse(vs)
	slices.Reverse(es)
	if again, e := Build(vs, es); e != api.OK || !again.Equal(g) {
		t.Fatal("Build")
	}
	ids := bitset.Of(0, 2, 3, 5, 900)
	part := g.Induced(ids)
	if part.VertexSet() != g.VertexSet().Intersect(ids) {
		t.Fatal("Induced")
	}
	for _, x := range es {
		if _, _, is := part.Edge(x.U, x.V); is != (ids.Has(x.U) && ids.Has(x.V)) {
			t.Fatal("Induced")
		}
	}
}

// P5.3: the form of inverse edits.
func TestInverse(t *testing.T) {
	g, _ := Build([]Vertex{{1, 3, 4}, {3, 0, 0}, {0, 0, 0}}, []Edge{{3, 1, 5, 6}, {0, 1, 0, 7}})
	for _, x := range []struct {
		e    Edit
		want []Edit
	}{
		{Edit{AddVertex, 9, 8, 7, 6}, []Edit{{Op: RemoveVertex, U: 9}}},
		{Edit{RemoveVertex, 1, 8, 7, 6}, []Edit{{AddVertex, 1, 0, 3, 4}, {AddEdge, 0, 1, 0, 7}, {AddEdge, 1, 3, 5, 6}}},
		{Edit{AddEdge, 3, 0, 7, 6}, []Edit{{Op: RemoveEdge, U: 0, V: 3}}},
		{Edit{RemoveEdge, 3, 1, 9, 9}, []Edit{{AddEdge, 1, 3, 5, 6}}},
		{Edit{SetVertexLabel, 1, 5, 9, 9}, []Edit{{SetVertexLabel, 1, 0, 3, 0}}},
		{Edit{SetVertexWeight, 1, 5, 9, 9}, []Edit{{SetVertexWeight, 1, 0, 0, 4}}},
		{Edit{SetEdgeLabel, 3, 1, 9, 9}, []Edit{{SetEdgeLabel, 1, 3, 5, 0}}},
		{Edit{SetEdgeWeight, 3, 1, 9, 9}, []Edit{{SetEdgeWeight, 1, 3, 0, 6}}},
	} {
		if l, e := g.Inverse(x.e); e != api.OK || !reflect.DeepEqual(l, x.want) {
			t.Error(x, l, e)
		}
	}
}

// P5.2 for absent elements, P5.4 and P5.5.
func TestAbsentAndNil(t *testing.T) {
	g := path(1, 2)
	if v, is := g.Vertex(7); v != (Vertex{}) || is {
		t.Error(v)
	}
	if x, i, is := g.Edge(1, 1); x != (Edge{}) || i != 0 || is {
		t.Error(x)
	}
	if !g.Neighbors(7).IsEmpty() || !g.IncidentEdges(-1).IsEmpty() {
		t.Error("absent")
	}
	c := g.Clone()
	c.Apply(Edit{Op: SetVertexLabel, U: 1, Label: 1})
	if g.Equal(c) || !g.Equal(path(2, 1)) || g.Equal(path(1, 2, 3)) {
		t.Error("Equal")
	}
	d := g.Clone()
	d.Apply(Edit{Op: SetEdgeWeight, U: 1, V: 2, Weight: 1})
	if g.Equal(d) {
		t.Error("edge weight")
	}
	g.Vertices()[0].Label = 9
	if v, _ := g.Vertex(1); v.Label != 0 {
		t.Error("shared")
	}
	var none *Graph
	if none.Apply(Edit{}) != api.ErrArgument {
		t.Error("Apply")
	}
	if l, e := none.Inverse(Edit{Op: 99}); l != nil || e != api.ErrArgument {
		t.Error("Inverse")
	}
	if _, is := none.Vertex(0); is {
		t.Error("Vertex")
	}
	if _, _, is := none.Edge(0, 1); is {
		t.Error("Edge")
	}
	n, m := none.Len()
	if n != 0 || m != 0 || none.Vertices() != nil || none.Edges() != nil || !none.VertexSet().IsEmpty() || !none.EdgeSet().IsEmpty() || !none.Neighbors(0).IsEmpty() || !none.IncidentEdges(0).IsEmpty() || none.Induced(bitset.Of(1)) != nil || none.Clone() != nil || !none.Equal(nil) || none.Equal(New()) || New().Equal(nil) {
		t.Error("nil")
	}
}
