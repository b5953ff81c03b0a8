package compile

import (
	"math/rand"
	"testing"

	"palmette/api"
	"palmette/dta"
	"palmette/formula"
	"palmette/kernel"
	"palmette/library"
	"palmette/minimize"
	"palmette/rankedtree"
	"palmette/run"
	"palmette/sample"
	"palmette/term"
)

func kernelOf(t *testing.T, s string) kernel.Kernel {
	q, _, e := formula.Parse(s)
	k, f := kernel.FromQuery(q)
	if e != api.OK || f != api.OK {
		t.Fatal(s)
	}
	return k
}

// P37.1.
func TestLetters(t *testing.T) {
	l, e := Letters(2, 1)
	want := []Letter{{}, {1, 0, 0, 0}, {1, 0, 0, 1}, {1, 1, 0, 0}, {1, 1, 0, 1}, {2, 0, 1, 0}, {2, 0, 1, 1}, {Op: 3}, {4, 0, 0, 0}, {4, 1, 0, 0}}
	a, f := Alphabet(2, 1)
	if e != api.OK || f != api.OK || len(l) != len(want) || len(a) != len(l) {
		t.Fatal(l)
	}
	for i := range l {
		if l[i] != want[i] || a[i] != []int{0, 0, 0, 2, 1}[l[i].Op] {
			t.Error(i, l[i])
		}
	}
	if l, _ := Letters(4, 2); len(l) != 1+16+24+1+4 || l[17] != (Letter{2, 0, 1, 0}) || l[40] != (Letter{2, 2, 3, 3}) {
		t.Error(len(l))
	}
}

// P37.2 to P37.4 on all small trees of letters.
func TestAutomata(t *testing.T) {
	r := rand.New(rand.NewSource(1))
	spaces := [][2]int{{1, 1}, {2, 0}, {2, 1}}
	kernels := []kernel.Kernel{kernelOf(t, "some vertex x: x is 0"), kernelOf(t, "every vertex x: some vertex y: x adj y"), kernelOf(t, "some set X: every vertex x: every vertex y: x adj y implies not (x in X iff y in X)")}
	for range 25 {
		if k, e := kernel.FromQuery(sample.Query(r.Intn, 0, 1+r.Intn(7))); e == api.OK {
			kernels = append(kernels, k)
		}
	}
	for i, k := range kernels {
		ports, labels := spaces[i%3][0], spaces[i%3][1]
		a, e := Automaton(k, ports, labels, 400)
		if e == api.ErrLimit {
			continue
		}
		valid, f := ValidTerms(ports, labels)
		n, h := NumStates(k, ports, labels, len(a.Accepting))
		if e != api.OK || f != api.OK || h != api.OK || n != len(a.Accepting) || a.Check() != api.OK {
			t.Fatal(e, f, h)
		}
		if _, e := NumStates(k, ports, labels, n-1); e != api.ErrLimit {
			t.Fatal(e)
		}
		if trimmed, _ := a.Trim(); !dta.Equal(trimmed, a) {
			t.Fatal("numbering")
		}
		negation, _ := kernel.Negate(k)
		other, e := Automaton(negation, ports, labels, 512)
		if e != api.OK {
			t.Fatal(e)
		}
		both, _ := dta.Product(a, other, [4]bool{false, true, true, true})
		if len(both.Accepting) > 0 {
			if same, _ := minimize.Equivalent(both, valid); !same {
				t.Fatal("negation")
			}
		}
		count := 0
		for x := range rankedtree.All(a.Alphabet) {
			if count++; count > 1500 || rankedtree.Size(x) > 7 {
				break
			}
			checkTree(t, k, ports, labels, a, valid, x)
		}
	}
}

func checkTree(t *testing.T, k kernel.Kernel, ports, labels int, a, valid dta.Automaton, x rankedtree.Tree) {
	y, e := Decode(ports, labels, x)
	back, f := Encode(ports, labels, y)
	if e != api.OK || f != api.OK || !rankedtree.Equal(back, x) {
		t.Fatal(x, e, f)
	}
	s, e := term.Check(y)
	closed := e == api.OK && s.Ports == 0
	if valid.Accepts(x) != closed {
		t.Fatal("ValidTerms", x)
	}
	want := false
	if closed {
		want, e = run.Accepts(k, y, nil)
		if e != api.OK {
			t.Fatal(e)
		}
	}
	if a.Accepts(x) != want {
		text, _ := term.Format(y)
		t.Fatal(text, want)
	}
}

func TestEquivalentFormulas(t *testing.T) {
	q, _ := library.Query("evenorder")
	a, _ := kernel.FromQuery(q)
	b := kernelOf(t, "every set Y: (some vertex v: not v in Y) or not size Y mod 2 is 1")
	x, e := Automaton(a, 2, 0, 512)
	y, f := Automaton(b, 2, 0, 512)
	if e != api.OK || f != api.OK {
		t.Fatal(e, f)
	}
	if same, _ := minimize.Equivalent(x, y); !same {
		t.Error("equivalent formulas")
	}
}

func TestEncode(t *testing.T) {
	read := func(s string) term.Term {
		x, e := term.Parse(s)
		if e != api.OK {
			t.Fatal(s)
		}
		return x
	}
	x, e := Encode(1, 0, read("f0(v0,5,0,9)"))
	if rankedtree.Format(x) != "3(1)" || e != api.OK {
		t.Error(x)
	}
	valid, _ := ValidTerms(1, 0)
	none, _ := Automaton(kernelOf(t, "every vertex x: false"), 1, 0, 99)
	if !valid.Accepts(x) || none.Accepts(x) {
		t.Error("example")
	}
	if x, _ := Encode(2, 0, read("e1,0,0,0")); rankedtree.Format(x) != "3" {
		t.Error(x)
	}
	if y, e := Decode(2, 1, rankedtree.Tree{Symbol: 7, Children: []rankedtree.Tree{{Symbol: 4}, {Symbol: 1}}}); e != api.OK || !term.Equal(y, read("j(v1,0,1,0)(v0,1,0,0)")) {
		t.Error(y)
	}
	deep := term.Term{}
	for range 256 {
		deep = term.Term{Op: term.Forget, Args: []term.Term{deep}}
	}
	for i, x := range []struct {
		t    term.Term
		want api.Errno
	}{{term.Term{Op: 9}, api.ErrUnknown}, {term.Term{Op: term.Vertex, P: 2}, api.ErrUnknown}, {term.Term{Op: term.Vertex, Label: 1}, api.ErrUnknown}, {term.Term{Op: term.Edge}, api.ErrUnknown}, {term.Term{Op: term.Rename, Args: []term.Term{{}}}, api.ErrUnknown}, {term.Term{Op: term.Vertex, Id: 9999, Weight: 1 << 40, Q: 7}, api.OK}, {term.Term{Op: term.Join, P: 9, Args: []term.Term{{}, {}}}, api.OK}, {term.Term{Op: term.Join}, api.ErrFormat}, {term.Term{Op: term.Join, Args: []term.Term{{Op: 9}}}, api.ErrFormat}, {term.Term{Op: term.Join, Args: []term.Term{{Args: []term.Term{{}}}, {Op: 9}}}, api.ErrFormat}, {deep, api.ErrDepth}} {
		if y, e := Encode(2, 0, x.t); e != x.want || e != api.OK && y.Children != nil {
			t.Error(i, e)
		}
	}
	wide := rankedtree.Tree{Symbol: 1}
	for range 11 {
		wide = rankedtree.Tree{Symbol: 2, Children: []rankedtree.Tree{wide, wide}}
	}
	if _, e := Decode(1, 0, wide); e != api.ErrRange {
		t.Error(e)
	}
	if _, e := Decode(1, 0, rankedtree.Tree{Symbol: 4}); e != api.ErrUnknown {
		t.Error(e)
	}
}

func TestErrors(t *testing.T) {
	bad := kernel.Kernel{Root: kernel.Node{Op: 99}}
	for _, x := range [][2]int{{0, 0}, {5, 0}, {1, -1}, {1, 3}} {
		_, e1 := Letters(x[0], x[1])
		_, e2 := Alphabet(x[0], x[1])
		_, e3 := Encode(x[0], x[1], term.Term{Op: 9})
		_, e4 := Decode(x[0], x[1], rankedtree.Tree{Symbol: -1})
		_, e5 := Automaton(bad, x[0], x[1], 0)
		_, e6 := ValidTerms(x[0], x[1])
		_, e7 := NumStates(bad, x[0], x[1], 0)
		for i, e := range []api.Errno{e1, e2, e3, e4, e5, e6, e7} {
			if e != api.ErrRange {
				t.Error(x, i, e)
			}
		}
	}
	open, _ := kernel.Parse("v (one 0)")
	for want, k := range map[api.Errno]kernel.Kernel{api.ErrKind: open, api.ErrLimit: kernelOf(t, "true")} {
		if n, e := NumStates(k, 1, 0, 0); n != 0 || e != want {
			t.Error(e)
		}
		if a, e := Automaton(k, 1, 0, -5); !dta.Equal(a, dta.Automaton{}) || e != want {
			t.Error(e)
		}
	}
	if _, e := Automaton(bad, 1, 0, 0); e != api.ErrKind {
		t.Error(e)
	}
	if _, e := ValidTerms(4, 0); e != api.ErrLimit {
		t.Error(e)
	}
}
