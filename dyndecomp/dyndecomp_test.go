package dyndecomp

import (
	"math/rand"
	"testing"

	"palmette/api"
	"palmette/bignat"
	"palmette/bitset"
	"palmette/count"
	"palmette/frame"
	"palmette/graph"
	"palmette/kernel"
	"palmette/nicedecomp"
	"palmette/sample"
	"palmette/semiring"
	"palmette/toptree"
	"palmette/treedecomp"
	"palmette/twbounds"
	"palmette/weighted"
)

var natural semiring.Natural

var unit = weighted.Unit[bignat.Nat]{R: natural}

func parse(s string) kernel.Kernel {
	k, e := kernel.Parse(s)
	if e != api.OK {
		panic(s)
	}
	return k
}

func scratch(t *testing.T, g *graph.Graph, k kernel.Kernel) bignat.Nat {
	_, order := twbounds.UpperBound(g)
	x, e := nicedecomp.FromOrder(g, order)
	n, f := count.All(k, x)
	if e != api.OK || f != api.OK {
		t.Fatal(e, f)
	}
	return n
}

// P48.1 to P48.7: random edits, with and without changes of the frame.
func TestRandomEdits(t *testing.T) {
	r := rand.New(rand.NewSource(1))
	kernels := []kernel.Kernel{parse("v (not (adj 0 0))"), parse("ve (and (one 0) (on 0 1))"), parse("- (ex v (and (one 0) (is 0 0)))")}
	changes := 0
	for range 30 {
		k := kernels[r.Intn(len(kernels))]
		w, e := Build[bignat.Nat](sample.Thin(r.Intn, r.Intn(7)), k, natural, unit)
		if e != api.OK {
			t.Fatal(e)
		}
		for range 20 {
			g, f := w.Graph(), w.Frame()
			edit := graph.Edit{Op: r.Intn(9), U: r.Intn(9), V: r.Intn(9), Label: uint8(r.Intn(2)), Weight: r.Intn(3)}
			inside, e1 := w.Edit(edit)
			if want := f.AllowsEdit(g, edit); e1 != want {
				t.Fatal(edit, e1, want)
			}
			after := g.Clone()
			possible := after.Apply(edit)
			any, moved, e2 := w.EditAny(edit)
			switch {
			case e1 == api.OK:
				if e2 != api.OK || moved || !any.Equal(inside) || !any.Frame().Equal(f) {
					t.Fatal(edit, e2)
				}
				x, _ := toptree.New(f)
				if edit.Op != graph.RemoveVertex && inside.Joins() > x.Depth() {
					t.Fatal("Joins", inside.Joins())
				}
			case possible != api.OK:
				if any != nil || moved || e2 != possible {
					t.Fatal(edit, e2, possible)
				}
			default:
				own, e3 := FrameFor(after)
				if e2 != e3 || moved != (e3 == api.OK) || e3 == api.OK && !any.Frame().Equal(own) {
					t.Fatal(edit, e2, e3)
				}
				changes++
			}
			if any == nil {
				continue
			}
			if !any.Graph().Equal(after) || !any.Answer().Equal(scratch(t, after, k)) || !w.Graph().Equal(g) {
				t.Fatal(edit, any.Answer())
			}
			w = any
			checkFrames(t, r, w, k)
		}
	}
	if changes < 20 {
		t.Error(changes)
	}
}

func checkFrames(t *testing.T, r *rand.Rand, w *Evaluator[bignat.Nat], k kernel.Kernel) {
	up := r.Intn(w.Frame().Len())
	has := append(w.Frame().Bag(up).Elements(), 900)
	more, e := w.AttachBag(up, has...)
	own, f := w.Frame().AddLeaf(up, bitset.Of(has...))
	if e != f || e == api.OK && (!more.Frame().Equal(own) || !more.Answer().Equal(w.Answer())) {
		t.Fatal(e, f)
	}
	if e == api.OK {
		less, e := more.DetachBag(w.Frame().Len())
		if e != api.OK || !less.Equal(w) {
			t.Fatal(e)
		}
	}
	b := r.Intn(w.Frame().Len())
	less, e := w.DetachBag(b)
	own, f = w.Frame().RemoveLeaf(b)
	if f == api.OK {
		f = own.Fits(w.Graph())
	}
	if e != f || e == api.OK && (!less.Frame().Equal(own) || !less.Answer().Equal(w.Answer())) {
		t.Fatal(e, f)
	}
	again, e := w.Reframe()
	own, f = FrameFor(w.Graph())
	if e != f || e == api.OK && (!again.Frame().Equal(own) || !again.Answer().Equal(w.Answer())) {
		t.Fatal(e, f)
	}
	fresh, e := New[bignat.Nat](w.Graph(), w.Frame(), k, natural, unit)
	if e != api.OK || !fresh.Equal(w) || fresh.DistinctClusters() != w.DistinctClusters() || w.Joins() > fresh.Joins() {
		t.Fatal(e)
	}
}

// P48.5: distinct contents.
func TestContents(t *testing.T) {
	k := parse("v (one 0)")
	f, _ := frame.New(treedecomp.Tree{{Parent: -1, Vertices: bitset.Of(1)}, {Parent: 0, Vertices: bitset.Of(1, 2)}, {Parent: 0, Vertices: bitset.Of(1, 2).Without(2).With(3)}, {Parent: 2, Vertices: bitset.Of(3)}, {Parent: 3, Vertices: bitset.Of(3)}})
	g, _ := graph.Build([]graph.Vertex{{Id: 1}, {Id: 2}, {Id: 3}}, nil)
	w, e := New[bignat.Nat](g, f, k, natural, unit)
	x, _ := toptree.New(f)
	if e != api.OK {
		t.Fatal(e)
	}
	leaves := 0
	for at := range x.Len() {
		if n, _ := x.Node(at); n.Kind == toptree.Leaf {
			leaves++
		}
	}
	// The bags 3 and 4 contain the same vertex and nothing has its home there, so their leaves have the same content.
	if w.DistinctClusters() >= x.Len() || w.Joins() > x.Len()-leaves || w.DistinctClusters() != w.Joins()+leaves-1 {
		t.Error(w.DistinctClusters(), w.Joins(), x.Len(), leaves)
	}
	same, _ := w.Edit(graph.Edit{Op: graph.SetVertexWeight, U: 3})
	if same.Joins() != 0 || same.DistinctClusters() != w.DistinctClusters() {
		t.Error(same.Joins())
	}
	other, _ := w.Edit(graph.Edit{Op: graph.SetVertexWeight, U: 3, Weight: 1})
	back, _ := other.Edit(graph.Edit{Op: graph.SetVertexWeight, U: 3})
	if other.Joins() == 0 || back.Joins() != other.Joins() || !back.Equal(w) || other.Equal(w) {
		t.Error(other.Joins(), back.Joins())
	}
}

func TestErrors(t *testing.T) {
	bad := kernel.Kernel{Root: kernel.Node{Op: 99}}
	k := parse("v (one 0)")
	f, _ := frame.New(treedecomp.Tree{{Parent: -1, Vertices: bitset.Of(0, 1)}})
	g := sample.Path(2)
	for i, c := range []struct {
		g    *graph.Graph
		f    *frame.Frame
		k    kernel.Kernel
		r    semiring.Semiring[bignat.Nat]
		w    weighted.Weighting[bignat.Nat]
		want api.Errno
	}{{nil, f, bad, natural, unit, api.ErrArgument}, {g, nil, bad, natural, unit, api.ErrArgument}, {g, f, bad, nil, unit, api.ErrArgument}, {g, f, bad, natural, nil, api.ErrArgument}, {sample.Path(3), f, bad, natural, unit, api.ErrKind}, {sample.Path(3), f, parse("vvvvvvvvv (and)"), natural, unit, api.ErrNotFound}, {g, f, parse("vvvvvvvvv (and)"), natural, unit, api.ErrLimit}} {
		if w, e := New(c.g, c.f, c.k, c.r, c.w); w != nil || e != c.want {
			t.Error(i, e)
		}
	}
	five := sample.Complete(5)
	for i, c := range []struct {
		g    *graph.Graph
		k    kernel.Kernel
		r    semiring.Semiring[bignat.Nat]
		want api.Errno
	}{{nil, bad, natural, api.ErrArgument}, {five, bad, nil, api.ErrArgument}, {five, bad, natural, api.ErrKind}, {five, parse("vvvvvvvvv (and)"), natural, api.ErrWidth}, {g, parse("vvvvvvvvv (and)"), natural, api.ErrLimit}} {
		if w, e := Build[bignat.Nat](c.g, c.k, c.r, unit); w != nil || e != c.want {
			t.Error(i, e)
		}
	}
	if f, e := FrameFor(nil); f != nil || e != api.ErrArgument {
		t.Error(e)
	}
	if f, e := FrameFor(sample.Complete(4)); e != api.OK || f.Len() != 1 {
		t.Error(e)
	}
	if f, e := FrameFor(graph.New()); e != api.OK || f.Len() != 1 {
		t.Error(e)
	}
	w, _ := New[bignat.Nat](g, f, k, natural, unit)
	for i, c := range []struct {
		up   int
		has  []int
		want api.Errno
	}{{9, []int{1024}, api.ErrRange}, {9, []int{-1}, api.ErrRange}, {9, []int{1, 2, 3, 4, 5}, api.ErrNotFound}, {0, []int{1, 2, 3, 4, 5}, api.ErrWidth}, {0, []int{1, 2, 2}, api.OK}} {
		if n, e := w.AttachBag(c.up, c.has...); e != c.want || (n == nil) != (e != api.OK) {
			t.Error(i, e)
		}
	}
	if n, e := w.DetachBag(0); n != nil || e != api.ErrState {
		t.Error(e)
	}
	var none *Evaluator[bignat.Nat]
	_, e1 := none.Edit(graph.Edit{})
	_, e2 := none.AttachBag(0, -1)
	_, e3 := none.DetachBag(0)
	_, e4 := none.Reframe()
	_, _, e5 := none.EditAny(graph.Edit{})
	for i, e := range []api.Errno{e1, e2, e3, e4, e5} {
		if e != api.ErrArgument {
			t.Error(i, e)
		}
	}
	if !none.Answer().IsZero() || none.Graph() != nil || none.Frame() != nil || none.Joins() != 0 || none.DistinctClusters() != 0 || !none.Equal(nil) || none.Equal(w) || w.Equal(nil) {
		t.Error("nil")
	}
}
