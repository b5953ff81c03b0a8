package weighted

import (
	"math/rand"
	"reflect"
	"slices"
	"strings"
	"testing"

	"palmette/api"
	"palmette/bignat"
	"palmette/bitset"
	"palmette/formula"
	"palmette/graph"
	"palmette/kernel"
	"palmette/msotype"
	"palmette/nicedecomp"
	"palmette/polynomial"
	"palmette/run"
	"palmette/sample"
	"palmette/semiring"
	"palmette/term"
)

func parse(s string) kernel.Kernel {
	k, e := kernel.Parse(s)
	if e != api.OK {
		panic(s)
	}
	return k
}

// weightOf multiplies the weights of all elements.
func weightOf[T any](g *graph.Graph, k kernel.Kernel, rows []bitset.Set, r semiring.Semiring[T], w Weighting[T]) T {
	x := r.One()
	for track, sort := range k.Sorts {
		if sort == kernel.Vertices {
			for _, v := range g.Vertices() {
				x = r.Mul(x, w.Vertex(track, v, rows[track].Has(v.Id)))
			}
			continue
		}
		for i, e := range g.Edges() {
			x = r.Mul(x, w.Edge(track, e, rows[track].Has(i)))
		}
	}
	return x
}

func compareSums[T any](t *testing.T, g *graph.Graph, k kernel.Kernel, x term.Term, all [][]bitset.Set, r semiring.Semiring[T], w Weighting[T]) {
	want := r.Zero()
	for _, rows := range all {
		want = r.Add(want, weightOf(g, k, rows, r, w))
	}
	if got, e := Sum(k, x, r, w); e != api.OK || !r.Same(got, want) {
		text, _ := kernel.Format(k)
		t.Fatal(text, got, want, e)
	}
}

// mixed is a weighting that depends on everything.
type mixed struct{}

func (mixed) Vertex(track int, v graph.Vertex, in bool) bignat.Nat {
	n := uint64(1 + track + v.Id%3 + int(v.Label))
	if in {
		n = uint64(v.Weight + 3)
	}
	return bignat.FromUint64(n)
}

func (mixed) Edge(track int, e graph.Edge, in bool) bignat.Nat {
	n := uint64(2 + e.U + 3*e.V)
	if in {
		n = uint64(e.Weight + 3 + track)
	}
	return bignat.FromUint64(n)
}

// P41.1, P41.5 and P41.7: sums are those of exhaustive search, along any term.
func TestSums(t *testing.T) {
	r := rand.New(rand.NewSource(1))
	var natural semiring.Natural
	for range 150 {
		q := sample.Query(r.Intn, r.Intn(3), 1+r.Intn(8))
		g := sample.Graph(r.Intn, r.Intn(4))
		k, e := kernel.FromQuery(q)
		linear, _ := run.Linear(g)
		all, f := run.Solutions(k, linear, 1<<16)
		if e != api.OK || f != api.OK {
			continue
		}
		n, _ := g.Len()
		nice, _ := nicedecomp.FromOrder(g, r.Perm(n))
		for _, x := range []term.Term{linear, nice} {
			compareSums[bignat.Nat](t, g, k, x, all, natural, mixed{})
			compareSums[bool](t, g, k, x, all, semiring.Boolean{}, Unit[bool]{semiring.Boolean{}})
			compareSums[semiring.Cost](t, g, k, x, all, semiring.MinPlus{}, ElementWeights{})
			compareSums[semiring.Cost](t, g, k, x, all, semiring.MaxPlus{}, ElementWeights{})
			cs := []Constraint{{Track: r.Intn(2), U: r.Intn(3), V: -1, In: r.Intn(2) == 0}, {Track: r.Intn(2), U: r.Intn(3), V: r.Intn(3), In: r.Intn(2) == 0}}
			compareSums[bignat.Nat](t, g, k, x, all, natural, Constrained[bignat.Nat]{natural, mixed{}, cs})
		}
	}
}

func TestExample(t *testing.T) {
	q, _, _ := formula.Parse("find set X: not X adj X")
	k, _ := kernel.FromQuery(q)
	x, _ := run.Linear(sample.Path(4))
	if n, e := Sum[bignat.Nat](k, x, semiring.Natural{}, Unit[bignat.Nat]{semiring.Natural{}}); n.String() != "8" || e != api.OK {
		t.Error(n)
	}
	if p, e := Sum[polynomial.Polynomial](k, x, polynomial.Ring{}, bySize{}); p.Text() != "1 + 4 x^1 + 3 x^2" || e != api.OK {
		t.Error(p.Text())
	}
	long := sample.Path(200)
	order := make([]int, 200)
	for i := range order {
		order[i] = i
	}
	y, _ := nicedecomp.FromOrder(long, order)
	if n, e := Sum[bignat.Nat](k, y, semiring.Natural{}, Unit[bignat.Nat]{semiring.Natural{}}); n.String() != "734544867157818093234908902110449296423351" || e != api.OK {
		t.Error(n, e)
	}
}

type bySize struct{}

func (bySize) Vertex(_ int, _ graph.Vertex, in bool) polynomial.Polynomial {
	if in {
		return polynomial.X()
	}
	return polynomial.One()
}

func (bySize) Edge(int, graph.Edge, bool) polynomial.Polynomial { return polynomial.One() }

// P41.3 and P41.4: tables list the states of all assignments.
func TestTables(t *testing.T) {
	var natural semiring.Natural
	k := parse("ve (and (on 0 1) (size 0 1 3))")
	m, e := New[bignat.Nat](k, natural, mixed{})
	if e != api.OK {
		t.Fatal(e)
	}
	s, _ := msotype.New(k)
	v := graph.Vertex{Id: 4, Label: 2, Weight: 2}
	vertex, _ := m.Vertex(3, v)
	texts, sums := m.Entries(vertex)
	out, _ := s.Vertex(3, 2, 0)
	in, _ := s.Vertex(3, 2, 1)
	if want := []string{s.Text(out), s.Text(in)}; !slices.Equal(texts, want) || sums[0].String() != "4" || sums[1].String() != "5" {
		t.Error(texts, sums)
	}
	edge, e := m.Edge(3, 5, graph.Edge{U: 4, V: 9, Weight: 1})
	if texts, sums := m.Entries(edge); e != api.OK || len(texts) != 7 || !slices.IsSorted(texts) || len(sums) != 7 {
		t.Error(texts, sums) // of eight assignments, two with the edge and an end lead to one state
	}
	both, e := m.Join(vertex, edge)
	other, f := m.Join(edge, vertex)
	a, x := m.Entries(both)
	b, y := m.Entries(other)
	if e != api.OK || f != api.OK || !reflect.DeepEqual(a, b) || !reflect.DeepEqual(x, y) || m.JoinCount() != 2 {
		t.Error(a, b)
	}
	if _, e := m.Total(both); e != api.ErrPort {
		t.Error(e)
	}
	empty, _ := m.Empty()
	if n, e := m.Total(empty); !n.IsZero() || e != api.OK {
		t.Error(n)
	}
	moved, e := m.Rename(both, []int{0, 1})
	back, f := m.Rename(moved, []int{3, 5})
	if c, _ := m.Entries(back); e != api.OK || f != api.OK || !slices.Equal(c, a) {
		t.Error(c)
	}
	gone, e := m.Forget(both, 3)
	if c, _ := m.Entries(gone); e != api.OK || strings.HasPrefix(c[0], "40") {
		t.Error(c)
	}
	none, _ := m.WithWeighting(Constrained[bignat.Nat]{natural, mixed{}, []Constraint{{0, 4, -1, true}, {0, 4, -1, false}}})
	if nothing, e := none.Vertex(0, v); e != api.OK {
		t.Error(e)
	} else if l, _ := none.Entries(nothing); len(l) != 0 {
		t.Error(l)
	} else if _, e := none.Forget(nothing, 1); e != api.ErrPort {
		t.Error(e)
	} else if r, e := m.Join(nothing, vertex); e != api.OK {
		t.Error(r, e)
	}
}

func TestErrors(t *testing.T) {
	var natural semiring.Natural
	unit := Unit[bignat.Nat]{natural}
	bad := kernel.Kernel{Root: kernel.Node{Op: 99}}
	if m, e := New[bignat.Nat](bad, nil, unit); m != nil || e != api.ErrArgument {
		t.Error(e)
	}
	if m, e := New[bignat.Nat](bad, natural, nil); m != nil || e != api.ErrArgument {
		t.Error(e)
	}
	if m, e := New[bignat.Nat](bad, natural, unit); m != nil || e != api.ErrKind {
		t.Error(e)
	}
	if m, e := New[bignat.Nat](parse("vvvvvvvvv (and)"), natural, unit); m != nil || e != api.ErrLimit {
		t.Error(e)
	}
	m, _ := New[bignat.Nat](parse("v (one 0)"), natural, unit)
	o, _ := New[bignat.Nat](parse("v (one 0)"), natural, unit)
	foreign, _ := o.Empty()
	v, _ := m.Vertex(2, graph.Vertex{})
	edge, _ := m.Edge(1, 2, graph.Edge{})
	for i, f := range []func() (Table[bignat.Nat], api.Errno){
		func() (Table[bignat.Nat], api.Errno) { return m.Join(foreign, v) }, func() (Table[bignat.Nat], api.Errno) { return m.Join(v, Table[bignat.Nat]{}) }, func() (Table[bignat.Nat], api.Errno) { return m.Forget(foreign, 99) }, func() (Table[bignat.Nat], api.Errno) { return m.Rename(Table[bignat.Nat]{}, []int{99}) },
		func() (Table[bignat.Nat], api.Errno) { return m.Vertex(16, graph.Vertex{}) }, func() (Table[bignat.Nat], api.Errno) { return m.Edge(-1, -1, graph.Edge{}) }, func() (Table[bignat.Nat], api.Errno) { return m.Forget(v, 1) }, func() (Table[bignat.Nat], api.Errno) { return m.Forget(v, 16) }, func() (Table[bignat.Nat], api.Errno) { return m.Rename(v, nil) }, func() (Table[bignat.Nat], api.Errno) { return m.Rename(v, []int{16}) }, func() (Table[bignat.Nat], api.Errno) { return m.Rename(edge, []int{0, 0}) },
		func() (Table[bignat.Nat], api.Errno) { return m.Edge(1, 1, graph.Edge{}) },
	} {
		want := api.ErrArgument
		if i > 3 {
			want = api.ErrPort
		}
		if i == 11 {
			want = api.ErrLoop
		}
		if a, e := f(); e != want || a.states != nil {
			t.Error(i, e)
		}
	}
	if _, e := m.Total(foreign); e != api.ErrArgument {
		t.Error(e)
	}
	if l, s := m.Entries(foreign); l != nil || s != nil {
		t.Error(l)
	}
	if w, e := m.WithWeighting(nil); w != nil || e != api.ErrArgument {
		t.Error(e)
	}
	open := term.Term{Op: term.Vertex}
	if _, e := m.Evaluate(open); e != api.OK {
		t.Error(e)
	}
	if _, e := m.Evaluate(term.Term{Op: term.Edge, Q: 1}); e != api.ErrPort {
		t.Error(e)
	}
	if n, e := Sum[bignat.Nat](parse("v (one 0)"), open, natural, unit); !n.IsZero() || e != api.ErrPort {
		t.Error(e)
	}
	if _, e := Sum[bignat.Nat](parse("v (one 0)"), term.Term{Op: 99}, natural, unit); e != api.ErrKind {
		t.Error(e)
	}
	var none *Evaluator[bignat.Nat]
	_, e1 := none.Empty()
	_, e2 := none.Vertex(99, graph.Vertex{})
	_, e3 := none.Edge(1, 1, graph.Edge{})
	_, e4 := none.Join(v, v)
	_, e5 := none.Forget(Table[bignat.Nat]{}, 0)
	_, e6 := none.Rename(v, nil)
	_, e7 := none.Total(Table[bignat.Nat]{})
	_, e8 := none.Evaluate(term.Term{Op: 99})
	_, e9 := none.WithWeighting(unit)
	for i, e := range []api.Errno{e1, e2, e3, e4, e5, e6, e7, e8, e9} {
		if e != api.ErrArgument {
			t.Error(i, e)
		}
	}
	if l, s := none.Entries(Table[bignat.Nat]{}); l != nil || s != nil || none.JoinCount() != 0 {
		t.Error("nil")
	}
}

// P41.1.
func TestWeightings(t *testing.T) {
	var natural semiring.Natural
	v, x := graph.Vertex{Id: 1, Weight: 7}, graph.Edge{U: 1, V: 2, Weight: -3}
	finite := func(n int) semiring.Cost { return semiring.Cost{Finite: true, Value: n} }
	if w := (ElementWeights{}); w.Vertex(0, v, true) != finite(7) || w.Vertex(0, v, false) != finite(0) || w.Edge(0, x, true) != finite(-3) || w.Edge(0, x, false) != finite(0) {
		t.Error("ElementWeights")
	}
	if w := (Unit[bignat.Nat]{}); !w.Vertex(0, v, true).IsZero() || !w.Edge(0, x, true).IsZero() {
		t.Error("Unit")
	}
	c := Constrained[bignat.Nat]{natural, Unit[bignat.Nat]{natural}, []Constraint{{0, 1, -1, true}, {1, 2, 1, false}}}
	for i, y := range []struct {
		got  bignat.Nat
		zero bool
	}{{c.Vertex(0, v, true), false}, {c.Vertex(0, v, false), true}, {c.Vertex(1, v, false), false}, {c.Vertex(0, graph.Vertex{Id: 2}, false), false}, {c.Edge(1, x, true), true}, {c.Edge(1, x, false), false}, {c.Edge(0, x, true), false}} {
		if y.got.IsZero() != y.zero {
			t.Error(i)
		}
	}
	c.Base = nil
	if !c.Vertex(0, v, true).IsZero() || !c.Vertex(0, v, false).IsZero() {
		t.Error("nil Base")
	}
}

// P41.3: a table with too many states.
func TestLimit(t *testing.T) {
	var boolean semiring.Boolean
	m, _ := New[bool](parse("v (size 0 0 2)"), boolean, Unit[bool]{boolean})
	a, _ := m.Empty()
	for p := range 15 {
		v, _ := m.Vertex(p, graph.Vertex{Id: p})
		next, e := m.Join(a, v)
		want := api.OK
		if p == 14 {
			want = api.ErrLimit
		}
		if e != want {
			t.Fatal(p, e)
		}
		if e == api.OK {
			a = next
		}
	}
	if m.JoinCount() != 14 {
		t.Error(m.JoinCount())
	}
}
