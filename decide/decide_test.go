package decide

import (
	"math/rand"
	"testing"

	"palmette/api"
	"palmette/compile"
	"palmette/formula"
	"palmette/kernel"
	"palmette/minimize"
	"palmette/rankedtree"
	"palmette/sample"
	"palmette/term"
	"palmette/treewidth"
)

func parse(s string) kernel.Kernel {
	k, e := kernel.Parse(s)
	if e != api.OK {
		panic(s)
	}
	return k
}

func fromText(s string) kernel.Kernel {
	q, _, _ := formula.Parse(s)
	k, e := kernel.FromQuery(q)
	if e != api.OK {
		panic(s)
	}
	return k
}

// P38.1 to P38.4.
func TestRandomKernels(t *testing.T) {
	r := rand.New(rand.NewSource(1))
	space := Space{2, 1, 300}
	for range 40 {
		var l []kernel.Kernel
		for len(l) < 2 {
			if k, e := kernel.FromQuery(sample.Query(r.Intn, 0, 1+r.Intn(6))); e == api.OK {
				l = append(l, k)
			}
		}
		a, b := l[0], l[1]
		check := func(x Result, e api.Errno, holds func(f, g bool) bool) {
			if e == api.ErrLimit {
				return
			}
			if e != api.OK || x.States == 0 {
				t.Fatal(e)
			}
			if !x.Found {
				if x.Graph != nil || !term.Equal(x.Term, term.Term{}) {
					t.Fatal("not found")
				}
				return
			}
			g, f := term.Graph(x.Term)
			width, _, _ := treewidth.Width(x.Graph)
			first, e1 := kernel.Holds(x.Graph, a, nil, 1<<40)
			second, e2 := kernel.Holds(x.Graph, b, nil, 1<<40)
			if f != api.OK || !g.Equal(x.Graph) || width > 1 || e1 != api.OK || e2 != api.OK || !holds(first, second) {
				t.Fatal("wrong witness")
			}
		}
		x, e := Satisfiable(a, space)
		check(x, e, func(f, g bool) bool { return f })
		checkLeast(t, a, space, x, e)
		x, e = Counterexample(a, space)
		check(x, e, func(f, g bool) bool { return !f })
		x, e = Implies(a, b, space)
		check(x, e, func(f, g bool) bool { return f && !g })
		x, e = Distinguish(a, b, space)
		check(x, e, func(f, g bool) bool { return f != g })
		left, e1 := compile.Automaton(a, 2, 1, 300)
		right, e2 := compile.Automaton(b, 2, 1, 300)
		if e == api.OK && e1 == api.OK && e2 == api.OK {
			if same, _ := minimize.Equivalent(left, right); same == x.Found {
				t.Fatal("Distinguish")
			}
		}
	}
}

// checkLeast enumerates trees up to the witness, and counts the accepted ones.
func checkLeast(t *testing.T, k kernel.Kernel, s Space, x Result, e api.Errno) {
	a, f := compile.Automaton(k, s.Ports, s.Labels, s.MaxStates)
	if e != f || e != api.OK {
		return
	}
	counts := map[int]uint64{}
	var least *rankedtree.Tree
	n := 0
	for y := range rankedtree.All(a.Alphabet) {
		if n++; n > 3000 || rankedtree.Size(y) > 4 {
			break
		}
		if a.Accepts(y) {
			counts[rankedtree.Size(y)]++
			if least == nil {
				least = &y
			}
		}
	}
	for size := range 4 {
		if n, e := CountTerms(k, s, size); e != api.OK || n.String() != countText(counts[size]) {
			t.Fatal(size, n, counts)
		}
	}
	if least != nil {
		got, _ := compile.Encode(s.Ports, s.Labels, x.Term)
		if !x.Found || !rankedtree.Equal(got, *least) {
			t.Fatal("witness")
		}
	}
}

func countText(n uint64) string {
	s := ""
	for ; n >= 10; n /= 10 {
		s = string(rune('0'+n%10)) + s
	}
	return string(rune('0'+n)) + s
}

func TestExample(t *testing.T) {
	space := Space{2, 0, 500}
	if x, e := Satisfiable(parse("- (ex v (and (one 0) (adj 0 0)))"), space); x.Found || e != api.OK || x.States == 0 {
		t.Error(x, e)
	}
	x, e := Satisfiable(parse("- (ex v (adj 0 0))"), space)
	if n, m := x.Graph.Len(); !x.Found || e != api.OK || n != 2 || m != 1 {
		t.Error(x, e)
	}
	forest := fromText("not some edges N : ( some edge e : e in N ) and every vertex a : ( some edge e : e in N and a on e ) implies some edge e : some edge f : not e = f and e in N and f in N and a on e and a on f")
	if x, e := Counterexample(forest, space); x.Found || e != api.OK && e != api.ErrLimit {
		t.Error(x, e)
	}
}

func TestErrors(t *testing.T) {
	good, open, bad := parse("- (and)"), parse("v (one 0)"), kernel.Kernel{Root: kernel.Node{Op: 99}}
	deep := kernel.Node{Op: kernel.And}
	for range 1022 {
		deep = kernel.Node{Op: kernel.Not, L: []kernel.Node{deep}}
	}
	big := kernel.Kernel{Root: deep}
	for i, x := range []struct {
		a, b  kernel.Kernel
		s     Space
		first api.Errno // of Satisfiable, Counterexample
		both  api.Errno
	}{
		{bad, bad, Space{5, 0, 9}, api.ErrRange, api.ErrRange}, {bad, open, Space{1, 3, 9}, api.ErrRange, api.ErrRange}, {bad, open, Space{1, 0, 9}, api.ErrKind, api.ErrKind}, {open, kernel.Kernel{Root: kernel.Node{Op: kernel.Not}}, Space{1, 0, 9}, api.ErrKind, api.ErrFormat}, {good, open, Space{1, 0, 9}, api.OK, api.ErrKind}, {good, good, Space{1, 0, 1}, api.ErrLimit, api.ErrLimit}, {big, big, Space{1, 0, 9}, api.OK, api.ErrDepth},
	} {
		r1, e1 := Satisfiable(x.a, x.s)
		_, e2 := Counterexample(x.a, x.s)
		r3, e3 := Implies(x.a, x.b, x.s)
		r4, e4 := Distinguish(x.a, x.b, x.s)
		n, e5 := CountTerms(x.a, x.s, 65)
		want := x.first
		if want == api.OK {
			want = api.ErrRange
		}
		if e1 != x.first || e2 != x.first || e3 != x.both || e4 != x.both || e5 != want || !n.IsZero() || e1 != api.OK && r1.States != 0 || r3.States != 0 || r4.Graph != nil {
			t.Error(i, e1, e2, e3, e4, e5)
		}
	}
	if _, e := CountTerms(good, Space{1, 0, 9}, -1); e != api.ErrRange {
		t.Error(e)
	}
}
