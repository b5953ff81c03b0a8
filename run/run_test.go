package run

import (
	"math/rand"
	"slices"
	"testing"

	"palmette/api"
	"palmette/bitset"
	"palmette/formula"
	"palmette/graph"
	"palmette/kernel"
	"palmette/library"
	"palmette/msotype"
	"palmette/nicedecomp"
	"palmette/sample"
	"palmette/semantics"
	"palmette/term"
)

func parse(s string) kernel.Kernel {
	k, e := kernel.Parse(s)
	if e != api.OK {
		panic(s)
	}
	return k
}

func read(s string) term.Term {
	x, e := term.Parse(s)
	if e != api.OK {
		panic(s)
	}
	return x
}

// terms returns different terms of a graph.
func terms(t *testing.T, r *rand.Rand, g *graph.Graph) []term.Term {
	n, _ := g.Len()
	a, e := Linear(g)
	b, f := nicedecomp.FromOrder(g, r.Perm(n))
	c := term.Term{Op: term.Rename, Args: []term.Term{b}}
	if e != api.OK || f != api.OK {
		t.Fatal(e, f)
	}
	return []term.Term{a, c}
}

// P30.5: Courcelle's theorem, on random queries and graphs.
func TestCourcelle(t *testing.T) {
	r := rand.New(rand.NewSource(1))
	for range 250 {
		q := sample.Query(r.Intn, r.Intn(3), 1+r.Intn(9))
		g := sample.Graph(r.Intn, r.Intn(4))
		k, e := kernel.FromQuery(q)
		want, f := semantics.Solutions(g, q, 1<<22)
		if e != api.OK || f != api.OK {
			continue
		}
		for _, x := range terms(t, r, g) {
			if got, e := Solutions(k, x, 1<<20); e != api.OK || !slices.EqualFunc(got, want, slices.Equal[[]bitset.Set]) {
				text, _ := kernel.Format(k)
				t.Fatal(text, got, want, e)
			}
		}
	}
}

// P30.5: subterms with the same shape and state are interchangeable.
func TestLibrary(t *testing.T) {
	r := rand.New(rand.NewSource(2))
	for _, name := range library.Names() {
		q, _ := library.Existential(name)
		k, _ := kernel.FromQuery(q)
		for range 4 {
			g := sample.Thin(r.Intn, r.Intn(5))
			want, e := semantics.Holds(g, q, nil, 1<<50)
			for _, x := range terms(t, r, g) {
				if got, f := Accepts(k, x, nil); f != api.ErrLimit && (got != want || e != api.OK || f != api.OK) {
					t.Fatal(name, got, want, e, f)
				}
			}
		}
	}
}

// P30.1 and P30.2.
func TestTrace(t *testing.T) {
	k := parse("ve (and (on 0 1) (size 0 1 2))")
	x := read("j(m1,0(j(j(v0,5,0,0)(v1,3,0,0))(e0,1,2,0)))(n)")
	s, _ := msotype.New(k)
	sets := []bitset.Set{bitset.Of(5), bitset.Of(0)}
	l, e := Trace(s, x, sets)
	if e != api.OK || len(l) != 8 {
		t.Fatal(l, e)
	}
	paths := [][]int{{0, 0, 0, 0}, {0, 0, 0, 1}, {0, 0, 0}, {0, 0, 1}, {0, 0}, {0}, {1}, nil}
	for i, step := range l {
		part, is := term.Subterm(x, step.Path)
		if !is || part.Op != step.Op || !slices.Equal(step.Path, paths[i]) {
			t.Error(i, step)
		}
	}
	v, _ := s.Vertex(0, 0, 1)
	w, _ := s.Vertex(1, 0, 0)
	both, _ := s.Join(v, w)
	edge, _ := s.Edge(0, 1, 2, 1, 0, 2)
	all, _ := s.Join(both, edge)
	turned, _ := s.Rename(all, []int{1, 0})
	if l[0].State != v || l[1].State != w || l[2].State != both || l[3].State != edge || l[4].State != all || l[5].State != turned || l[6].State != 0 || l[7].State != turned {
		t.Error(l)
	}
	if state, e := State(s, x, sets); state != turned || e != api.OK || !s.Accepts(state) {
		t.Error(state, e)
	}
}

func TestErrors(t *testing.T) {
	k := parse("ve (on 0 1)")
	s, _ := msotype.New(k)
	open, closed := read("v0,5,0,0"), read("f0(v0,5,0,0)")
	two := make([]bitset.Set, 2)
	for i, x := range []struct {
		s    *msotype.States
		t    term.Term
		sets []bitset.Set
		want api.Errno
	}{{nil, term.Term{Op: 99}, nil, api.ErrArgument}, {s, term.Term{Op: 99}, nil, api.ErrKind}, {s, read("e0,1,0,0"), nil, api.ErrPort}, {s, closed, nil, api.ErrFormat}, {s, closed, []bitset.Set{bitset.Of(4), {}}, api.ErrNotFound}, {s, closed, []bitset.Set{bitset.Of(5), bitset.Of(0)}, api.ErrNotFound}, {s, open, two, api.OK}} {
		n, e := State(x.s, x.t, x.sets)
		l, f := Trace(x.s, x.t, x.sets)
		if e != x.want || f != e || e != api.OK && (n != 0 || l != nil) {
			t.Error(i, e, f)
		}
		if is, e := Accepts(k, x.t, x.sets); i > 0 && x.want != api.OK && (is || e != x.want) {
			t.Error(i, e)
		}
	}
	bad := kernel.Kernel{Root: kernel.Node{Op: 99}}
	if is, e := Accepts(bad, term.Term{Op: 99}, nil); is || e != api.ErrKind {
		t.Error(e)
	}
	if is, e := Accepts(k, open, two); is || e != api.ErrPort {
		t.Error(e)
	}
	for i, x := range []struct {
		k    kernel.Kernel
		t    term.Term
		most int
		want api.Errno
	}{{bad, term.Term{Op: 99}, 0, api.ErrKind}, {k, term.Term{Op: 98}, 0, api.ErrKind}, {k, open, 0, api.ErrPort}, {k, closed, 1, api.ErrBudget}, {k, closed, 2, api.OK}} {
		if l, e := Solutions(x.k, x.t, x.most); e != x.want || len(l) != 0 {
			t.Error(i, e)
		}
	}
	wide, _ := Linear(sample.Path(15))
	if _, e := Solutions(parse("- (ex v (ex v (size 0 0 64)))"), wide, 9); e != api.ErrLimit {
		t.Error(e)
	}
	if _, e := Accepts(parse("- (ex v (size 0 0 64))"), wide, nil); e != api.ErrLimit {
		t.Error(e)
	}
}

// P30.4.
func TestLinear(t *testing.T) {
	x, e := Linear(sample.Path(3))
	if s, _ := term.Format(x); e != api.OK || s != "f2(f1(f0(j(j(j(j(v0,0,0,0)(v1,1,0,0))(v2,2,0,0))(e0,1,0,0))(e1,2,0,0))))" {
		t.Error(s)
	}
	if x, e := Linear(graph.New()); e != api.OK || x.Op != term.Empty {
		t.Error(x)
	}
	if x, e := Linear(nil); e != api.ErrArgument || x.Op != 0 {
		t.Error(e)
	}
	if x, e := Linear(sample.Path(17)); e != api.ErrWidth || x.Op != 0 {
		t.Error(e)
	}
	if x, e := Linear(sample.Path(16)); e != api.OK || term.Width(x) != 16 {
		t.Error(e)
	}
	q, _, _ := formula.Parse("find set X: not X adj X")
	k, _ := kernel.FromQuery(q)
	four, _ := Linear(sample.Path(4))
	if l, e := Solutions(k, four, 16); len(l) != 8 || e != api.OK {
		t.Error(l, e)
	}
}
