package dynamic

import (
	"math/rand"
	"slices"
	"testing"

	"palmette/api"
	"palmette/bignat"
	"palmette/bitset"
	"palmette/frame"
	"palmette/graph"
	"palmette/kernel"
	"palmette/sample"
	"palmette/semiring"
	"palmette/toptree"
	"palmette/treedecomp"
	"palmette/weighted"
)

var natural semiring.Natural

var unit = weighted.Unit[bignat.Nat]{R: natural}

func parse(s string) kernel.Kernel {
	k, e := kernel.Parse(s)
	if e != api.OK {
		panic(s)
	}
	return k
}

func random(r *rand.Rand, n int) (*toptree.Tree, *graph.Graph) {
	parents, sets, g := sample.Tree(r.Intn, n)
	var t treedecomp.Tree
	for i, p := range parents {
		t = append(t, treedecomp.Bag{Parent: p, Vertices: bitset.Of(sets[i]...)})
	}
	f, _ := frame.New(t)
	x, e := toptree.New(f)
	if e != api.OK {
		panic(e)
	}
	return x, g
}

func scratch(l *Evaluator[bignat.Nat], k kernel.Kernel) (bignat.Nat, api.Errno) {
	t, e := l.Clusters().Term(l.Graph())
	if e != api.OK {
		return bignat.Nat{}, e
	}
	w := weighted.Constrained[bignat.Nat]{R: natural, Base: unit, Constraints: l.Pins()}
	return weighted.Sum[bignat.Nat](k, t, natural, w)
}

// bagsOf returns the bags that an edit affects.
func bagsOf(f *frame.Frame, g *graph.Graph, e graph.Edit) bitset.Set {
	if e.Op == graph.AddEdge || e.Op == graph.RemoveEdge || e.Op >= graph.SetEdgeLabel {
		b, _ := f.EdgeHome(e.U, e.V)
		return bitset.Of(b)
	}
	b, _ := f.VertexHome(e.U)
	s := bitset.Of(b)
	if e.Op == graph.RemoveVertex {
		for v := range g.Neighbors(e.U).All() {
			b, _ := f.EdgeHome(e.U, v)
			s = s.With(b)
		}
	}
	return s
}

func clustersOf(x *toptree.Tree, bags bitset.Set) int {
	seen := map[int]bool{}
	for b := range bags.All() {
		for _, at := range x.PathToRoot(b) {
			seen[at] = true
		}
	}
	return len(seen)
}

// P47.1 to P47.6: random edits and constraints, against evaluation from scratch.
func TestRandomChanges(t *testing.T) {
	r := rand.New(rand.NewSource(1))
	kernels := []kernel.Kernel{parse("v (not (adj 0 0))"), parse("ve (and (one 0) (on 0 1))"), parse("v (ex v (and (one 1) (adj 0 1) (sub 1 0)))"), parse("e (not (ex v (and (one 1) (on 1 0) (is 1 0))))")}
	for range 40 {
		k := kernels[r.Intn(len(kernels))]
		x, g := random(r, 1+r.Intn(7))
		f := x.Frame()
		l, e := New[bignat.Nat](g, x, k, natural, unit)
		if e != api.OK || l.Recomputed() != x.Len() || !l.Graph().Equal(g) || l.Clusters() != x {
			t.Fatal(e)
		}
		for range 15 {
			before := l
			value, pins, old := l.Value(), l.Pins(), l.Graph()
			ids := f.Vertices().Elements()
			pick := func() int { return ids[r.Intn(len(ids))] }
			switch r.Intn(3) {
			case 0:
				p := weighted.Constraint{Track: r.Intn(len(k.Sorts)), U: pick(), V: -1, In: r.Intn(2) == 0}
				if k.Sorts[p.Track] == kernel.Edges {
					p.V = pick()
				}
				next, e := l.Pin(p)
				_, isVertex := old.Vertex(p.U)
				_, _, isEdge := old.Edge(p.U, p.V)
				if exists := p.V < 0 && isVertex || isEdge; exists != (e == api.OK) || !exists && e != api.ErrNotFound {
					t.Fatal(p, e)
				}
				if e != api.OK {
					continue
				}
				home, _ := f.VertexHome(p.U)
				if p.V >= 0 {
					home, _ = f.EdgeHome(p.U, p.V)
				}
				if next.Recomputed() != len(x.PathToRoot(home)) || next.Recomputed() > x.Depth() {
					t.Fatal("Pin")
				}
				l = next
			case 1:
				if len(pins) == 0 {
					continue
				}
				p := pins[r.Intn(len(pins))]
				u, v := p.U, p.V
				if v >= 0 && r.Intn(2) == 0 {
					u, v = v, u
				}
				next, e := l.Unpin(p.Track, u, v)
				if e != api.OK || len(next.Pins()) != len(pins)-1 || slices.Contains(next.Pins(), p) {
					t.Fatal(e)
				}
				l = next
			default:
				edit := graph.Edit{Op: r.Intn(9), U: pick(), V: pick(), Label: uint8(r.Intn(4)), Weight: r.Intn(5)}
				next, e := l.Apply(edit)
				if want := f.AllowsEdit(old, edit); e != want {
					t.Fatal(edit, e, want)
				}
				if e != api.OK {
					continue
				}
				if next.Recomputed() != clustersOf(x, bagsOf(f, old, edit)) {
					t.Fatal(edit, next.Recomputed())
				}
				l = next
			}
			want, e := scratch(l, k)
			fresh, f2 := New[bignat.Nat](l.Graph(), x, k, natural, unit)
			for _, p := range l.Pins() {
				fresh, _ = fresh.Pin(p)
			}
			if e != api.OK || f2 != api.OK || !l.Value().Equal(want) || !l.Equal(fresh) {
				t.Fatal(l.Value(), want)
			}
			if !before.Value().Equal(value) || !before.Graph().Equal(old) || !slices.Equal(before.Pins(), pins) {
				t.Fatal("receiver changed")
			}
			if !slices.IsSortedFunc(l.Pins(), compareElements) {
				t.Fatal(l.Pins())
			}
		}
	}
}

// P47.2: many edits at once.
func TestApplyAll(t *testing.T) {
	r := rand.New(rand.NewSource(2))
	k := parse("v (not (adj 0 0))")
	for range 30 {
		x, g := random(r, 1+r.Intn(6))
		l, _ := New[bignat.Nat](g, x, k, natural, unit)
		ids := x.Frame().Vertices().Elements()
		l, _ = l.Apply(graph.Edit{Op: graph.AddVertex, U: ids[0]})
		if l == nil {
			l, _ = New[bignat.Nat](g, x, k, natural, unit)
		}
		l, _ = l.Pin(weighted.Constraint{U: ids[0], V: -1, In: true})
		var es []graph.Edit
		var bags bitset.Set
		step := l
		for range 8 {
			e := graph.Edit{Op: r.Intn(8), U: ids[r.Intn(len(ids))], V: ids[r.Intn(len(ids))], Weight: r.Intn(3)}
			next, err := step.Apply(e)
			if err != api.OK {
				if _, f := l.ApplyAll(append(slices.Clone(es), e, graph.Edit{Op: 99})); f != err {
					t.Fatal(f, err)
				}
				continue
			}
			bags = bags.Union(bagsOf(x.Frame(), step.Graph(), e))
			step = next
			es = append(es, e)
		}
		all, err := l.ApplyAll(es)
		if err != api.OK || !all.Equal(step) || all.Recomputed() != clustersOf(x, bags) {
			t.Fatal(err)
		}
	}
}

func TestExample(t *testing.T) {
	f, _ := frame.New(treedecomp.Tree{{Parent: -1, Vertices: bitset.Of(4, 7, 9)}})
	x, _ := toptree.New(f)
	g, _ := graph.Build([]graph.Vertex{{Id: 4}, {Id: 7}}, nil)
	k := parse("v (one 0)")
	l, _ := New[bignat.Nat](g, x, k, natural, unit)
	p, _ := l.Pin(weighted.Constraint{U: 7, V: -1})
	a, _ := l.Apply(graph.Edit{Op: graph.AddVertex, U: 9})
	if l.Value().String() != "2" || p.Value().String() != "1" || a.Value().String() != "3" {
		t.Error(l.Value(), p.Value(), a.Value())
	}
	gone, _ := p.Apply(graph.Edit{Op: graph.RemoveVertex, U: 7})
	if len(gone.Pins()) != 0 || len(p.Pins()) != 1 || p.Equal(l) || gone.Equal(p) {
		t.Error(gone.Pins())
	}
	weights, e := New[semiring.Cost](g, x, k, semiring.MinPlus{}, weighted.ElementWeights{})
	heavier, f2 := weights.ApplyAll([]graph.Edit{{Op: graph.SetVertexWeight, U: 4, Weight: 5}, {Op: graph.SetVertexWeight, U: 7, Weight: 3}})
	if e != api.OK || f2 != api.OK || heavier.Value() != (semiring.Cost{Finite: true, Value: 3}) {
		t.Error(heavier.Value())
	}
}

func TestErrors(t *testing.T) {
	f, _ := frame.New(treedecomp.Tree{{Parent: -1, Vertices: bitset.Of(0, 1)}})
	x, _ := toptree.New(f)
	g := sample.Path(2)
	k, bad := parse("ve (on 0 1)"), kernel.Kernel{Root: kernel.Node{Op: 99}}
	for i, c := range []struct {
		g    *graph.Graph
		x    *toptree.Tree
		k    kernel.Kernel
		r    semiring.Semiring[bignat.Nat]
		w    weighted.Weighting[bignat.Nat]
		want api.Errno
	}{{nil, x, bad, natural, unit, api.ErrArgument}, {g, nil, bad, natural, unit, api.ErrArgument}, {g, x, bad, nil, unit, api.ErrArgument}, {g, x, bad, natural, nil, api.ErrArgument}, {sample.Path(3), x, bad, natural, unit, api.ErrKind}, {sample.Path(3), x, parse("vvvvvvvvv (and)"), natural, unit, api.ErrNotFound}, {g, x, parse("vvvvvvvvv (and)"), natural, unit, api.ErrLimit}} {
		if l, e := New(c.g, c.x, c.k, c.r, c.w); l != nil || e != c.want {
			t.Error(i, e)
		}
	}
	l, _ := New[bignat.Nat](g, x, k, natural, unit)
	for i, c := range []struct {
		p    weighted.Constraint
		want api.Errno
	}{{weighted.Constraint{Track: 2, V: 7}, api.ErrUnknown}, {weighted.Constraint{Track: -1}, api.ErrUnknown}, {weighted.Constraint{V: 1}, api.ErrKind}, {weighted.Constraint{Track: 1, V: -1}, api.ErrKind}, {weighted.Constraint{U: 5, V: -1}, api.ErrNotFound}, {weighted.Constraint{Track: 1, U: 0, V: 5}, api.ErrNotFound}} {
		if n, e := l.Pin(c.p); n != nil || e != c.want {
			t.Error(i, e)
		}
		if n, e := l.Unpin(c.p.Track, c.p.U, c.p.V); n != nil || e != api.ErrNotFound {
			t.Error(i, e)
		}
	}
	if n, e := l.Apply(graph.Edit{Op: graph.AddVertex, U: 2}); n != nil || e != api.ErrNotFound {
		t.Error(e)
	}
	if n, e := l.ApplyAll(nil); e != api.OK || n.Recomputed() != 0 || !n.Equal(l) {
		t.Error(e)
	}
	var none *Evaluator[bignat.Nat]
	_, e1 := none.Apply(graph.Edit{})
	_, e2 := none.ApplyAll(nil)
	_, e3 := none.Pin(weighted.Constraint{})
	_, e4 := none.Unpin(0, 0, 0)
	for i, e := range []api.Errno{e1, e2, e3, e4} {
		if e != api.ErrArgument {
			t.Error(i, e)
		}
	}
	if !none.Value().IsZero() || none.Recomputed() != 0 || none.Graph() != nil || none.Clusters() != nil || none.Pins() != nil || !none.Equal(nil) || none.Equal(l) || l.Equal(nil) {
		t.Error("nil")
	}
}
