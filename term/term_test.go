package term

import (
	"math/rand"
	"slices"
	"strings"
	"testing"

	"palmette/api"
	"palmette/graph"
)

func parse(t *testing.T, s string) Term {
	x, e := Parse(s)
	if e != api.OK {
		t.Fatal(s, e)
	}
	return x
}

// P19.1: shapes and errors.
func TestCheck(t *testing.T) {
	s, e := Check(parse(t, "j(j(v0,5,0,1)(v1,7,0,2))(e0,1,0,3)"))
	want := Shape{Ports: 3, Named: 3}
	want.Edges[0], want.Edges[1] = 2, 1
	if e != api.OK || s != want {
		t.Error(s, e)
	}
	s, _ = Check(parse(t, "m3,0,7(j(v5,1,0,0)(e2,9,0,0))"))
	want = Shape{Ports: 1<<3 | 1<<0 | 1<<7, Named: 1}
	want.Edges[3], want.Edges[7] = 1<<7, 1<<3
	if s != want {
		t.Error(s)
	}
	s, _ = Check(parse(t, "f0(j(v0,1,0,0)(j(e0,1,0,0)(e1,2,0,0)))"))
	want = Shape{Ports: 6}
	want.Edges[1], want.Edges[2] = 4, 2
	if s != want {
		t.Error(s)
	}
	n, v, d := Term{}, Term{Op: Vertex, P: 1}, Term{Op: Edge, P: 1, Q: 2}
	bad := Term{Op: 7}
	for i, x := range []struct {
		t    Term
		want api.Errno
	}{
		{bad, api.ErrKind}, {Term{Op: -1}, api.ErrKind}, {Term{Op: Empty, P: 1}, api.ErrFormat}, {Term{Op: Empty, Args: []Term{n}}, api.ErrFormat}, {Term{Op: Empty, Args: []Term{bad}}, api.ErrKind}, {Term{Op: Vertex, Q: 1}, api.ErrFormat}, {Term{Op: Edge, Q: 1, Id: 1}, api.ErrFormat}, {Term{Op: Vertex, To: []int{0}}, api.ErrFormat}, {Term{Op: Vertex, To: []int{}}, api.OK}, {Term{Op: Join, Args: []Term{n}}, api.ErrFormat}, {Term{Op: Join, Args: []Term{n, n}, Weight: 1}, api.ErrFormat}, {Term{Op: Forget, Label: 1, Args: []Term{v}}, api.ErrFormat}, {Term{Op: Rename, P: 1, Args: []Term{n}}, api.ErrFormat},
		{Term{Op: Vertex, P: 16}, api.ErrRange}, {Term{Op: Vertex, P: -1}, api.ErrRange}, {Term{Op: Vertex, Id: 1024}, api.ErrRange}, {Term{Op: Vertex, Weight: 1<<20 + 1}, api.ErrRange}, {Term{Op: Edge, P: 16, Q: 16}, api.ErrRange}, {Term{Op: Forget, P: 16, Args: []Term{n}}, api.ErrRange}, {Term{Op: Rename, To: []int{16, 3}, Args: []Term{v}}, api.ErrRange}, {Term{Op: Edge, P: 3, Q: 3}, api.ErrLoop},
		{Term{Op: Join, Args: []Term{v, v}}, api.ErrDuplicate}, {Term{Op: Join, Args: []Term{d, {Op: Edge, P: 2, Q: 1}}}, api.ErrDuplicate}, {Term{Op: Join, Args: []Term{v, d}}, api.OK}, {Term{Op: Forget, P: 2, Args: []Term{v}}, api.ErrPort}, {Term{Op: Forget, P: 1, Args: []Term{d}}, api.ErrPort}, {Term{Op: Rename, To: []int{3}, Args: []Term{d}}, api.ErrFormat}, {Term{Op: Rename, To: []int{3, 3}, Args: []Term{d}}, api.ErrDuplicate}, {Term{Op: Rename, To: []int{2, 1}, Args: []Term{d}}, api.OK}, {Term{Op: Join, Args: []Term{{Op: Forget, P: 9, Args: []Term{n}}, bad}}, api.ErrPort},
	} {
		s, e := Check(x.t)
		text, f := Format(x.t)
		g, h := Graph(x.t)
		c, k := Close(x.t)
		if e != x.want || f != e || e != api.OK && (s != Shape{} || text != "" || g != nil || h != e || k != e || c.Op != 0 || Width(x.t) != 0) {
			t.Error(i, e, h, k)
		}
	}
}

func TestLimits(t *testing.T) {
	chain := Term{}
	for range 4095 {
		chain = Term{Op: Rename, Args: []Term{chain}}
	}
	wide := Term{}
	for range 15 {
		wide = Term{Op: Join, Args: []Term{wide, wide}}
	}
	if _, e := Check(chain); e != api.OK || Depth(chain) != 4096 {
		t.Error(e)
	}
	if _, e := Check(Term{Op: Rename, Args: []Term{chain}}); e != api.ErrDepth {
		t.Error(e)
	}
	if _, e := Check(wide); e != api.OK || Size(wide) != 65535 {
		t.Error(e)
	}
	if _, e := Check(Term{Op: Join, Args: []Term{wide, {Op: 99}}}); e != api.ErrLimit {
		t.Error(e)
	}
	for range 40 {
		wide = Term{Op: Join, Args: []Term{wide, wide}}
	}
	if _, e := Check(wide); e != api.ErrLimit {
		t.Error(e)
	}
	close := Term{Op: Join, Args: []Term{chain, {Op: Vertex}}}
	for Depth(close) > 4096 {
		close.Args[0] = close.Args[0].Args[0]
	}
	if _, e := Check(close); e != api.OK {
		t.Error(e)
	}
	if x, e := Close(close); e != api.ErrDepth || x.Op != 0 {
		t.Error(e)
	}
}

// random returns a term in which only the given ports are used, with the vertices from a counter.
func random(r *rand.Rand, size int, id *int) Term {
	if size <= 1 {
		switch r.Intn(4) {
		case 0:
			return Term{}
		case 1:
			p := r.Intn(4)
			return Term{Op: Edge, P: p, Q: (p + 1 + r.Intn(3)) % 4, Label: uint8(r.Intn(3)), Weight: r.Intn(9) - 4}
		}
		*id++
		return Term{Op: Vertex, P: r.Intn(4), Id: *id, Label: uint8(r.Intn(3)), Weight: r.Intn(9) - 4}
	}
	for range 50 {
		var t Term
		switch r.Intn(4) {
		case 0:
			t = Term{Op: Forget, P: r.Intn(4), Args: []Term{random(r, size-1, id)}}
		case 1:
			x := random(r, size-1, id)
			t = Term{Op: Rename, To: r.Perm(6)[:Width0(x)], Args: []Term{x}}
		default:
			k := 1 + r.Intn(size-1)
			t = Term{Op: Join, Args: []Term{random(r, k, id), random(r, size-1-k, id)}}
		}
		if _, e := Check(t); e == api.OK {
			return t
		}
	}
	return Term{}
}

// Width0 returns the number of ports of a valid term.
func Width0(t Term) int {
	s, _ := Check(t)
	n := 0
	for p := range NumPorts {
		n += int(s.Ports >> p & 1)
	}
	return n
}

// P19.2 to P19.5 on random terms.
func TestRandomTerms(t *testing.T) {
	r := rand.New(rand.NewSource(1))
	graphs := 0
	for range 3000 {
		id := 0
		x := random(r, 1+r.Intn(14), &id)
		s, e := Check(x)
		text, _ := Format(x)
		if again, f := Parse(text); e != api.OK || f != api.OK || !Equal(again, x) {
			t.Fatal(text, e, f)
		}
		g, e := Graph(x)
		if s.Ports != s.Named && e != api.ErrPort {
			t.Fatal(text, e)
		}
		if x.Op == Join {
			y := Term{Op: Join, Args: []Term{x.Args[1], x.Args[0]}}
			o, _ := Check(y)
			h, f := Graph(y)
			if o != s || f != e || !h.Equal(g) {
				t.Fatal(text)
			}
		}
		if e != api.OK {
			if e != api.ErrPort && e != api.ErrDuplicate {
				t.Fatal(text, e)
			}
			continue
		}
		graphs++
		n, m := g.Len()
		if n != strings.Count(text, "v") || m != strings.Count(text, "e") {
			t.Fatal(text)
		}
		closed, e := Close(x)
		h, f := Graph(closed)
		if c, _ := Check(closed); e != api.OK || f != api.OK || c != (Shape{}) || !h.Equal(g) {
			t.Fatal(text)
		}
	}
	if graphs < 300 {
		t.Error(graphs)
	}
}

func TestGraph(t *testing.T) {
	g, e := Graph(parse(t, "f1(j(m1,0(j(j(v0,5,3,1)(v1,7,0,2))(e1,0,4,3)))(f2(j(v2,9,0,0)(j(e2,0,0,8)(e1,2,0,9)))))"))
	want, _ := graph.Build([]graph.Vertex{{Id: 5, Label: 3, Weight: 1}, {Id: 7, Weight: 2}, {Id: 9}}, []graph.Edge{{U: 5, V: 7, Label: 4, Weight: 3}, {U: 9, V: 7, Weight: 8}, {U: 5, V: 9, Weight: 9}})
	if e != api.OK || !g.Equal(want) {
		t.Error(g.Edges(), e)
	}
	for s, want := range map[string]api.Errno{"e0,1,0,0": api.ErrPort, "j(v0,5,0,0)(e0,1,0,0)": api.ErrPort, "j(f0(v0,5,0,0))(v0,5,0,0)": api.ErrDuplicate, "n": api.OK} {
		if g, e := Graph(parse(t, s)); e != want || (g == nil) != (e != api.OK) {
			t.Error(s, e)
		}
	}
	// The same edge twice is hidden from shapes by a Forget in between.
	if _, e := Graph(parse(t, "j(j(f1(j(v0,1,0,0)(j(v1,2,0,0)(e0,1,0,0))))(f1(j(v1,3,0,0)(e0,1,0,0))))(n)")); e != api.OK {
		t.Error(e)
	}
}

func TestSubterms(t *testing.T) {
	x := parse(t, "j(f0(v0,1,0,0))(m2(v1,3,0,0))")
	if y, is := Subterm(x, []int{1, 0}); !is || y.Id != 3 {
		t.Error(y)
	}
	if y, is := Subterm(x, nil); !is || !Equal(x, y) {
		t.Error(y)
	}
	part := parse(t, "v5,9,0,0")
	y, e := Replace(x, []int{1, 0}, part)
	if text, _ := Format(y); e != api.OK || text != "j(f0(v0,1,0,0))(m2(v5,9,0,0))" {
		t.Error(text)
	}
	if z, _ := Replace(x, nil, part); !Equal(z, part) {
		t.Error(z)
	}
	for _, path := range [][]int{{2}, {-1}, {0, 0, 0}, {1, 1}} {
		if y, is := Subterm(x, path); is || !Equal(y, Term{}) {
			t.Error(path)
		}
		if y, e := Replace(x, path, part); e != api.ErrNotFound || !Equal(y, Term{}) {
			t.Error(path)
		}
	}
	y.Args[1].To[0] = 7
	if x.Args[1].To[0] != 2 || !slices.Equal(parse(t, "m2(v1,3,0,0)").To, []int{2}) || Width(x) != 1 || Depth(x) != 3 || Size(x) != 5 {
		t.Error("shared")
	}
	if _, e := Close(parse(t, "e0,1,0,0")); e != api.ErrPort {
		t.Error(e)
	}
	if c, _ := Close(parse(t, "j(v3,0,0,0)(v1,1,0,0)")); c.P != 3 || c.Args[0].P != 1 {
		t.Error(c)
	}
}

// P19.4.
func TestParse(t *testing.T) {
	for s, want := range map[string]api.Errno{
		"": api.ErrFormat, "x": api.ErrFormat, "nn": api.ErrFormat, "n ": api.ErrFormat, "v": api.ErrFormat, "v0,1,0": api.ErrFormat, "v0,1,0,0,": api.ErrFormat, "v00,1,0,0": api.ErrFormat, "v0,1,0,-0": api.ErrFormat, "v0,1,256,0": api.ErrFormat, "v0,1,-1,0": api.ErrFormat, "v0,1,0,1073741825": api.ErrFormat, "v0,1,0,1073741824": api.ErrRange, "v-1,1,0,0": api.ErrRange, "v0,-1073741825,0,0": api.ErrFormat,
		"j(n)": api.ErrFormat, "j(n)(n)(n)": api.ErrFormat, "j(n,n)": api.ErrFormat, "f(n)": api.ErrFormat, "f0 (n)": api.ErrFormat, "f0n": api.ErrFormat, "f0(n)": api.ErrPort, "m(n)": api.OK, "m,(n)": api.ErrFormat, "m1,(v0,1,0,0)": api.ErrFormat, "m1(n)": api.ErrFormat, "m": api.ErrFormat, "f0(e0,1,0,0)": api.ErrPort, "e1,1,0,0": api.ErrLoop, strings.Repeat("m(", 300000): api.ErrFormat, strings.Repeat("n", 1<<20+1): api.ErrLong, strings.Repeat("m(", 5000) + "n" + strings.Repeat(")", 5000): api.ErrDepth,
	} {
		if x, e := Parse(s); e != want || e != api.OK && !Equal(x, Term{}) {
			t.Errorf("%.30q %d", s, e)
		}
	}
	for _, x := range []Term{{P: 1}, {Q: 1}, {Id: 1}, {Label: 1}, {Weight: 1}, {To: []int{0}}, {Args: []Term{{}}}, {Op: 1}} {
		if Equal(x, Term{}) {
			t.Error(x)
		}
	}
}
