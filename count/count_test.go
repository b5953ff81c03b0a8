package count

import (
	"math/rand"
	"testing"

	"palmette/api"
	"palmette/bignat"
	"palmette/bitset"
	"palmette/graph"
	"palmette/kernel"
	"palmette/nicedecomp"
	"palmette/polynomial"
	"palmette/run"
	"palmette/sample"
	"palmette/term"
	"palmette/weighted"
)

func parse(s string) kernel.Kernel {
	k, e := kernel.Parse(s)
	if e != api.OK {
		panic(s)
	}
	return k
}

func nat(n int) bignat.Nat { return bignat.FromUint64(uint64(n)) }

func contains(g *graph.Graph, sort int, s bitset.Set, u, v int) (bool, bool) {
	if sort == kernel.Vertices {
		_, is := g.Vertex(u)
		return s.Has(u), is && v == -1
	}
	_, i, is := g.Edge(u, v)
	return is && s.Has(i), is
}

// P42.2 to P42.5 against the list of all solutions.
func TestCounts(t *testing.T) {
	r := rand.New(rand.NewSource(1))
	for range 120 {
		k, e := kernel.FromQuery(sample.Query(r.Intn, 1+r.Intn(2), 1+r.Intn(8)))
		g := sample.Graph(r.Intn, r.Intn(4))
		n, m := g.Len()
		x, _ := nicedecomp.FromOrder(g, r.Perm(n))
		all, f := run.Solutions(k, x, 1<<16)
		if e != api.OK || f != api.OK {
			continue
		}
		if c, e := All(k, x); e != api.OK || !c.Equal(nat(len(all))) {
			t.Fatal(c, len(all))
		}
		negated, _ := kernel.Negate(k)
		yes, _ := All(k, x)
		no, _ := All(negated, x)
		bits := 0
		for _, sort := range k.Sorts {
			bits += []int{n, m}[sort]
		}
		if c, e := Assignments(k, x); e != api.OK || !c.Equal(yes.Add(no)) || !c.Equal(nat(1<<bits)) {
			t.Fatal(c)
		}
		for track, sort := range k.Sorts {
			sizes := map[int]int{}
			least, most := 99, -1
			for _, rows := range all {
				s := rows[track].Len()
				sizes[s]++
				least, most = min(least, s), max(most, s)
			}
			l, e := BySize(k, x, track)
			for i, c := range l {
				if !c.Equal(nat(sizes[i])) {
					t.Fatal(l)
				}
			}
			lo, hi, some, f := SizeRange(k, x, track)
			if e != api.OK || f != api.OK || len(l) != most+1 || some != (len(all) > 0) || some && (lo != least || hi != most) || !some && lo+hi != 0 {
				t.Fatal(l, lo, hi)
			}
			checkOccurrences(t, g, k, x, all, track, sort)
			other := r.Intn(len(k.Sorts))
			p := polynomial.Zero()
			for _, rows := range all {
				term, _ := polynomial.Monomial(nat(1), rows[track].Len(), rows[other].Len())
				p = p.Add(term)
			}
			if q, e := BySizes(k, x, track, other); e != api.OK || !q.Equal(p) {
				t.Fatal(q.Text(), p.Text())
			}
		}
	}
}

func checkOccurrences(t *testing.T, g *graph.Graph, k kernel.Kernel, x term.Term, all [][]bitset.Set, track, sort int) {
	l, e := Occurrences(k, x, track)
	n, m := g.Len()
	if e != api.OK || len(l) != []int{n, m}[sort] {
		t.Fatal(l, e)
	}
	for _, o := range l {
		count := 0
		for _, rows := range all {
			in, is := contains(g, sort, rows[track], o.U, o.V)
			if !is {
				t.Fatal(o)
			}
			if in {
				count++
			}
		}
		if !o.Count.Equal(nat(count)) {
			t.Fatal(o, count)
		}
		c := weighted.Constraint{Track: track, U: o.U, V: o.V, In: true}
		yes, _ := Constrained(k, x, []weighted.Constraint{c, {Track: 9}, {Track: track, U: 77, V: -1, In: true}})
		c.In = false
		no, _ := Constrained(k, x, []weighted.Constraint{c})
		both, _ := Constrained(k, x, []weighted.Constraint{c, {Track: track, U: o.U, V: o.V, In: true}})
		if !yes.Equal(nat(count)) || !no.Equal(nat(len(all)-count)) || !both.IsZero() {
			t.Fatal(yes, no)
		}
	}
}

func TestExample(t *testing.T) {
	k := parse("v (not (adj 0 0))")
	x, _ := run.Linear(sample.Path(4))
	n, _ := All(k, x)
	l, _ := BySize(k, x, 0)
	a, _ := Assignments(k, x)
	if n.String() != "8" || len(l) != 3 || l[0].String() != "1" || l[1].String() != "4" || l[2].String() != "3" || a.String() != "16" {
		t.Error(n, l, a)
	}
}

// P42.1.
func TestErrors(t *testing.T) {
	good, bad, many := parse("v (one 0)"), kernel.Kernel{Root: kernel.Node{Op: 99}}, parse("vvvvvvvvv (and)")
	closed := term.Term{Op: term.Forget, Args: []term.Term{{Op: term.Vertex}}}
	wide, _ := run.Linear(sample.Path(16))
	for i, x := range []struct {
		k     kernel.Kernel
		t     term.Term
		track int
		want  api.Errno
		plain api.Errno // of the functions without a track
		all   api.Errno // of Assignments
	}{
		{bad, term.Term{Op: 99}, 9, api.ErrKind, api.ErrKind, api.ErrKind}, {many, term.Term{Op: 99}, 99, api.ErrLimit, api.ErrLimit, api.ErrLimit}, {good, term.Term{Op: 99}, 1, api.ErrUnknown, api.ErrKind, api.ErrKind}, {good, closed, -1, api.ErrUnknown, api.OK, api.OK}, {good, term.Term{Op: term.Edge, Q: 1}, 0, api.ErrPort, api.ErrPort, api.ErrPort}, {good, term.Term{Op: term.Vertex}, 0, api.ErrPort, api.ErrPort, api.ErrPort}, {parse("v (ex v (size 1 0 64))"), wide, 0, api.ErrLimit, api.ErrLimit, api.OK}, {parse("e (ex v (size 1 0 64))"), wide, 0, api.ErrLimit, api.ErrLimit, api.OK},
	} {
		a, e1 := All(x.k, x.t)
		_, e2 := Constrained(x.k, x.t, nil)
		b, e3 := BySize(x.k, x.t, x.track)
		c, e4 := BySizes(x.k, x.t, 0, x.track)
		_, e5 := BySizes(x.k, x.t, x.track, 0)
		d, e6 := Occurrences(x.k, x.t, x.track)
		_, _, is, e7 := SizeRange(x.k, x.t, x.track)
		_, e8 := Assignments(x.k, x.t)
		if e1 != x.plain || e2 != x.plain || e3 != x.want || e4 != x.want || e5 != x.want || e6 != x.want || e7 != x.want || e8 != x.all {
			t.Error(i, e1, e2, e3, e4, e5, e6, e7, e8)
		}
		if b != nil || c.NumTerms() != 0 || d != nil || is || e1 != api.OK && !a.IsZero() {
			t.Error(i)
		}
	}
}
