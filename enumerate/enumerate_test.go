package enumerate

import (
	"math/rand"
	"slices"
	"testing"

	"palmette/api"
	"palmette/bignat"
	"palmette/bitset"
	"palmette/kernel"
	"palmette/nicedecomp"
	"palmette/run"
	"palmette/sample"
	"palmette/term"
)

func parse(s string) kernel.Kernel {
	k, e := kernel.Parse(s)
	if e != api.OK {
		panic(s)
	}
	return k
}

func nat(n int) bignat.Nat { return bignat.FromUint64(uint64(n)) }

// P44.1 to P44.5 against the list of all solutions, with the bounds on evaluations.
func TestEnumeration(t *testing.T) {
	r := rand.New(rand.NewSource(1))
	for range 80 {
		k, e := kernel.FromQuery(sample.Query(r.Intn, r.Intn(3), 1+r.Intn(7)))
		n := r.Intn(4)
		g := sample.Graph(r.Intn, n)
		x, _ := nicedecomp.FromOrder(g, r.Perm(n))
		all, f := run.Solutions(k, x, 1<<10)
		if e != api.OK || f != api.OK {
			continue
		}
		l, e := New(k, x)
		if e != api.OK || l.Evaluations() != 0 {
			t.Fatal(e)
		}
		bits := 0
		for _, sort := range k.Sorts {
			_, m := g.Len()
			bits += []int{n, m}[sort]
		}
		if l.NumBits() != bits {
			t.Fatal(l.NumBits())
		}
		within := func(most int, do func()) {
			before := l.Evaluations()
			do()
			if n := l.Evaluations() - before; n > most || n < 0 {
				t.Fatal(n, most)
			}
		}
		within(bits+1, func() {
			first, is, e := l.First()
			if e != api.OK || is != (len(all) > 0) || is && !slices.Equal(first, all[0]) || !is && first != nil {
				t.Fatal(first)
			}
		})
		if got := slices.Collect(l.All()); !slices.EqualFunc(got, all, slices.Equal[[]bitset.Set]) {
			t.Fatal(got, all)
		}
		for range 10 {
			rows := make([]bitset.Set, len(k.Sorts))
			for track, sort := range k.Sorts {
				domain := []bitset.Set{g.VertexSet(), g.EdgeSet()}[sort]
				for i := range domain.All() {
					if r.Intn(2) == 0 {
						rows[track] = rows[track].With(i)
					}
				}
			}
			at, is := slices.BinarySearchFunc(all, rows, bitset.CompareSlices)
			within(1, func() {
				if got, e := l.Contains(rows); e != api.OK || got != is {
					t.Fatal(rows)
				}
			})
			within(bits, func() {
				if got, e := l.Rank(rows); e != api.OK || !got.Equal(nat(at)) {
					t.Fatal(rows, got, at)
				}
			})
			next := at
			if is {
				next++
			}
			within(2*(bits+1), func() {
				got, more, e := l.Next(rows)
				if e != api.OK || more != (next < len(all)) || more && !slices.Equal(got, all[next]) || !more && got != nil {
					t.Fatal(rows, got)
				}
			})
			i := r.Intn(len(all) + 2)
			within(bits+1, func() {
				got, is, e := l.Unrank(nat(i))
				if e != api.OK || is != (i < len(all)) || is && !slices.Equal(got, all[i]) || !is && got != nil {
					t.Fatal(i, got)
				}
			})
		}
	}
}

func TestExample(t *testing.T) {
	x, _ := term.Parse("j(f0(v0,3,0,0))(f0(v0,5,0,0))")
	l, e := New(parse("v (one 0)"), x)
	a, _, _ := l.First()
	b, is, _ := l.Next(a)
	c, more, _ := l.Next(b)
	rank, _ := l.Rank(b)
	if e != api.OK || !slices.Equal(a, []bitset.Set{bitset.Of(3)}) || !slices.Equal(b, []bitset.Set{bitset.Of(5)}) || !is || more || c != nil || rank.String() != "1" || l.NumBits() != 2 {
		t.Error(a, b, rank)
	}
	for range 2 {
		for range l.All() {
			break
		}
	}
	for rows := range l.All() {
		rows[0] = bitset.Set{}
	}
}

func TestErrors(t *testing.T) {
	good, bad := parse("v (one 0)"), kernel.Kernel{Root: kernel.Node{Op: 99}}
	closed := term.Term{Op: term.Forget, Args: []term.Term{{Op: term.Vertex}}}
	for i, x := range []struct {
		k    kernel.Kernel
		t    term.Term
		want api.Errno
	}{{bad, term.Term{Op: term.Vertex, P: 16}, api.ErrKind}, {good, term.Term{Op: term.Vertex, P: 16}, api.ErrRange}, {good, term.Term{Op: term.Edge, Q: 1}, api.ErrPort}, {good, term.Term{Op: term.Vertex}, api.ErrPort}, {parse("vvvvvvvvv (and)"), term.Term{Op: term.Join, Args: []term.Term{closed, closed}}, api.ErrDuplicate}, {parse("vvvvvvvvv (and)"), closed, api.ErrLimit}} {
		if l, e := New(x.k, x.t); l != nil || e != x.want {
			t.Error(i, e)
		}
	}
	l, _ := New(good, closed)
	for rows, want := range map[*[]bitset.Set]api.Errno{{}: api.ErrFormat, {bitset.Of(0), bitset.Of(7)}: api.ErrFormat, {bitset.Of(7)}: api.ErrNotFound} {
		a, is, e := l.Next(*rows)
		b, f := l.Contains(*rows)
		c, h := l.Rank(*rows)
		if a != nil || is || b || !c.IsZero() || e != want || f != want || h != want {
			t.Error(*rows, e, f, h)
		}
	}
	if l.Evaluations() != 0 {
		t.Error(l.Evaluations())
	}
	wide, _ := run.Linear(sample.Path(16))
	hard, e := New(parse("v (ex v (size 1 0 64))"), wide)
	if e != api.OK {
		t.Fatal(e)
	}
	_, _, e1 := hard.First()
	_, _, e2 := hard.Next(make([]bitset.Set, 1))
	_, e3 := hard.Contains(make([]bitset.Set, 1))
	_, e4 := hard.Rank([]bitset.Set{bitset.Of(1)})
	_, _, e5 := hard.Unrank(nat(9))
	for i, e := range []api.Errno{e1, e2, e3, e4, e5} {
		if e != api.ErrLimit {
			t.Error(i, e)
		}
	}
	for range hard.All() {
		t.Error("All")
	}
	if hard.Evaluations() != 6 {
		t.Error(hard.Evaluations())
	}
	var none *Enumerator
	_, _, e1 = none.First()
	_, _, e2 = none.Next(nil)
	_, e3 = none.Contains(nil)
	_, e4 = none.Rank(nil)
	_, _, e5 = none.Unrank(nat(0))
	for i, e := range []api.Errno{e1, e2, e3, e4, e5} {
		if e != api.ErrArgument {
			t.Error(i, e)
		}
	}
	for range none.All() {
		t.Error("nil All")
	}
	if none.NumBits() != 0 || none.Evaluations() != 0 {
		t.Error("nil")
	}
}
