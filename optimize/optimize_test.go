package optimize

import (
	"math/rand"
	"slices"
	"testing"

	"palmette/api"
	"palmette/bitset"
	"palmette/graph"
	"palmette/kernel"
	"palmette/nicedecomp"
	"palmette/run"
	"palmette/sample"
	"palmette/term"
	"palmette/weighted"
)

func parse(s string) kernel.Kernel {
	k, e := kernel.Parse(s)
	if e != api.OK {
		panic(s)
	}
	return k
}

func costOf(g *graph.Graph, k kernel.Kernel, rows []bitset.Set) int {
	sum := 0
	for track, sort := range k.Sorts {
		for i := range rows[track].All() {
			if sort == kernel.Edges {
				sum += g.Edges()[i].Weight
			} else {
				v, _ := g.Vertex(i)
				sum += v.Weight
			}
		}
	}
	return sum
}

func meets(g *graph.Graph, rows []bitset.Set, c weighted.Constraint) bool {
	in := rows[c.Track].Has(c.U)
	if c.V >= 0 {
		_, i, _ := g.Edge(c.U, c.V)
		in = rows[c.Track].Has(i)
	}
	return in == c.In
}

// best searches a list of solutions in increasing order.
func best(all [][]bitset.Set, dear bool, cost func([]bitset.Set) int, ok func([]bitset.Set) bool) Result {
	r := Result{}
	for _, rows := range all {
		c := cost(rows)
		if ok(rows) && (!r.Feasible || dear && c > r.Cost || !dear && c < r.Cost) {
			r = Result{true, c, rows}
		}
	}
	return r
}

func same(a, b Result) bool {
	return a.Feasible == b.Feasible && a.Cost == b.Cost && slices.Equal(a.Assignment, b.Assignment)
}

// P43.2 to P43.5 against the list of all solutions.
func TestOptima(t *testing.T) {
	r := rand.New(rand.NewSource(1))
	for range 200 {
		k, e := kernel.FromQuery(sample.Query(r.Intn, r.Intn(3), 1+r.Intn(8)))
		g := sample.Graph(r.Intn, r.Intn(4))
		n, _ := g.Len()
		x, _ := nicedecomp.FromOrder(g, r.Perm(n))
		all, f := run.Solutions(k, x, 1<<16)
		if e != api.OK || f != api.OK {
			continue
		}
		cost := func(rows []bitset.Set) int { return costOf(g, k, rows) }
		var pins []weighted.Constraint
		for track, sort := range k.Sorts {
			if sort == kernel.Vertices && n > 0 {
				pins = append(pins, weighted.Constraint{Track: track, U: r.Intn(n), V: -1, In: r.Intn(2) == 0})
			}
			if es := g.Edges(); sort == kernel.Edges && len(es) > 0 {
				y := es[r.Intn(len(es))]
				pins = append(pins, weighted.Constraint{Track: track, U: y.V, V: y.U, In: r.Intn(2) == 0})
			}
		}
		for _, dear := range []bool{false, true} {
			want := best(all, dear, cost, func([]bitset.Set) bool { return true })
			got, e := Optimize(k, x, dear)
			value, is, f := Optimum(k, x, dear)
			if e != api.OK || f != api.OK || !same(got, want) || value != want.Cost || is != want.Feasible {
				t.Fatal(got, want, value)
			}
			pinned := best(all, dear, cost, func(rows []bitset.Set) bool {
				return !slices.ContainsFunc(pins, func(c weighted.Constraint) bool { return !meets(g, rows, c) })
			})
			if got, e := OptimizeWith(k, x, dear, pins); e != api.OK || !same(got, pinned) {
				t.Fatal(got, pinned)
			}
			if len(pins) > 0 {
				one := best(all, dear, cost, func(rows []bitset.Set) bool { return meets(g, rows, pins[0]) })
				gap, is, e := Gap(k, x, dear, pins[0])
				if e != api.OK || is != one.Feasible || is && gap != max(one.Cost-want.Cost, want.Cost-one.Cost) || !is && gap != 0 {
					t.Fatal(gap, one, want)
				}
			}
			if len(k.Sorts) > 0 {
				size := best(all, dear, func(rows []bitset.Set) int { return rows[0].Len() }, func([]bitset.Set) bool { return true })
				if got, e := Cardinality(k, x, dear); e != api.OK || !same(got, size) {
					t.Fatal(got, size)
				}
			}
		}
	}
}

func TestExample(t *testing.T) {
	g, _ := graph.Build([]graph.Vertex{{Id: 4, Weight: 5}, {Id: 7, Weight: 3}}, nil)
	x, _ := run.Linear(g)
	k := parse("v (one 0)")
	a, _ := Optimize(k, x, false)
	b, _ := Optimize(k, x, true)
	gap, is, e := Gap(k, x, false, weighted.Constraint{U: 7, V: -1})
	if !same(a, Result{true, 3, []bitset.Set{bitset.Of(7)}}) || !same(b, Result{true, 5, []bitset.Set{bitset.Of(4)}}) || gap != 2 || !is || e != api.OK {
		t.Error(a, b, gap)
	}
}

// P43.1.
func TestErrors(t *testing.T) {
	good, bad, many := parse("v (one 0)"), kernel.Kernel{Root: kernel.Node{Op: 99}}, parse("vvvvvvvvv (and)")
	closed := term.Term{Op: term.Forget, Args: []term.Term{{Op: term.Vertex}}}
	double := term.Term{Op: term.Join, Args: []term.Term{closed, closed}}
	wide, _ := run.Linear(sample.Path(16))
	pin := weighted.Constraint{U: 0, V: -1}
	for i, x := range []struct {
		k    kernel.Kernel
		t    term.Term
		pin  weighted.Constraint
		want api.Errno
		with api.Errno // with the constraint
	}{
		{bad, term.Term{Op: 99}, pin, api.ErrKind, api.ErrKind}, {good, term.Term{Op: term.Vertex, P: 16}, pin, api.ErrRange, api.ErrRange}, {good, term.Term{Op: term.Edge, Q: 1}, pin, api.ErrPort, api.ErrPort}, {good, term.Term{Op: term.Vertex}, pin, api.ErrPort, api.ErrPort}, {good, double, weighted.Constraint{Track: 9}, api.ErrDuplicate, api.ErrDuplicate}, {many, closed, weighted.Constraint{Track: 9}, api.ErrLimit, api.ErrUnknown}, {good, closed, weighted.Constraint{Track: -1}, api.OK, api.ErrUnknown}, {good, closed, weighted.Constraint{V: 1}, api.OK, api.ErrKind}, {parse("e (one 0)"), closed, pin, api.OK, api.ErrKind}, {good, closed, weighted.Constraint{U: 5, V: -1}, api.OK, api.ErrNotFound}, {parse("e (one 0)"), closed, weighted.Constraint{U: 0, V: 1}, api.OK, api.ErrNotFound}, {parse("v (ex v (size 1 0 64))"), wide, pin, api.ErrLimit, api.ErrLimit},
	} {
		_, _, e1 := Optimum(x.k, x.t, false)
		_, e2 := Optimize(x.k, x.t, true)
		r, e3 := OptimizeWith(x.k, x.t, false, []weighted.Constraint{x.pin})
		_, e4 := Cardinality(x.k, x.t, false)
		gap, is, e5 := Gap(x.k, x.t, false, x.pin)
		if e1 != x.want || e2 != x.want || e3 != x.with || e4 != x.want || e5 != x.with || r.Feasible || r.Assignment != nil || gap != 0 || is {
			t.Error(i, e1, e2, e3, e4, e5)
		}
	}
	if _, e := Cardinality(parse("- (and)"), closed, true); e != api.ErrNotFound {
		t.Error(e)
	}
	if r, e := Optimize(parse("- (and)"), closed, true); e != api.OK || !r.Feasible || len(r.Assignment) != 0 {
		t.Error(r, e)
	}
}
