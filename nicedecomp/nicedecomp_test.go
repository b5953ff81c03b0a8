package nicedecomp

import (
	"math/rand"
	"reflect"
	"testing"

	"palmette/api"
	"palmette/bitset"
	"palmette/graph"
	"palmette/sample"
	"palmette/term"
	"palmette/treedecomp"
	"palmette/treewidth"
)

// P27.2 to P27.4.
func TestRandomGraphs(t *testing.T) {
	r := rand.New(rand.NewSource(1))
	for range 200 {
		n := r.Intn(9)
		g := sample.Graph(r.Intn, n)
		order := r.Perm(n)
		x, e := FromOrder(g, order)
		d, _ := treedecomp.FromOrder(g, order)
		y, f := ToTerm(g, d)
		if e != api.OK || f != api.OK || !term.Equal(x, y) {
			t.Fatal(e, f)
		}
		d, _ = d.Reduce()
		d, _ = d.Reroot(r.Intn(len(d)))
		y, f = ToTerm(g, d)
		exact, _, _ := treewidth.Width(g)
		for _, z := range []term.Term{x, y} {
			h, e := term.Graph(z)
			s, _ := term.Check(z)
			if e != api.OK || !h.Equal(g) || s.Ports != 0 || term.Width(z) < exact+1 {
				t.Fatal(e)
			}
			back, e := ToDecomposition(z)
			if e != api.OK || back.CheckGraph(g) != api.OK || back.Width() != term.Width(z)-1 || len(back) != term.Size(z) {
				t.Fatal(back, e)
			}
		}
		if f != api.OK || term.Width(y) > d.Width()+1 {
			t.Fatal(f)
		}
		ports, e := Ports(d)
		for i, b := range d {
			used := bitset.Of(ports[i]...)
			if e != api.OK || used.Len() != b.Vertices.Len() || !used.SubsetOf(bitset.Below(d.Width()+1)) {
				t.Fatal(ports)
			}
		}
	}
}

func TestExample(t *testing.T) {
	g := sample.Path(3)
	d := treedecomp.Tree{{Parent: 1, Vertices: bitset.Of(0, 1)}, {Parent: -1, Vertices: bitset.Of(1, 2)}}
	if l, e := Ports(d); e != api.OK || !reflect.DeepEqual(l, [][]int{{1, 0}, {0, 1}}) {
		t.Error(l)
	}
	x, e := ToTerm(g, d)
	s, _ := term.Format(x)
	if e != api.OK || s != "f1(f0(j(j(j(j(n)(v0,1,0,0))(v1,2,0,0))(e0,1,0,0))(f1(j(j(n)(v1,0,0,0))(e1,0,0,0)))))" {
		t.Error(s)
	}
	back, e := ToDecomposition(x)
	if e != api.OK || len(back) != 16 || back[0].Parent != -1 || back[2].Vertices != bitset.Of(1, 2) || back[11].Vertices != bitset.Of(0, 1) {
		t.Error(back)
	}
	// A bag may contain what is not a vertex; it takes a port all the same.
	y, e := ToTerm(g, treedecomp.Tree{{Parent: -1, Vertices: bitset.Of(0, 1, 2, 9)}})
	if h, f := term.Graph(y); e != api.OK || f != api.OK || !h.Equal(g) {
		t.Error(e, f)
	}
}

func TestErrors(t *testing.T) {
	wide := treedecomp.Tree{{Parent: -1, Vertices: bitset.Below(17)}}
	if l, e := Ports(wide); l != nil || e != api.ErrWidth {
		t.Error(e)
	}
	if l, e := Ports(nil); l != nil || e != api.ErrRange {
		t.Error(e)
	}
	for _, x := range []struct {
		g    *graph.Graph
		d    treedecomp.Tree
		want api.Errno
	}{{nil, nil, api.ErrArgument}, {sample.Path(1), nil, api.ErrRange}, {sample.Path(18), wide, api.ErrNotFound}, {sample.Path(2), wide, api.ErrWidth}, {sample.Path(2), treedecomp.Tree{{Parent: -1, Vertices: bitset.Of(0)}, {Vertices: bitset.Of(1)}}, api.ErrNotInBag}} {
		if y, e := ToTerm(x.g, x.d); y.Op != 0 || e != x.want {
			t.Error(e)
		}
	}
	if _, e := FromOrder(nil, nil); e != api.ErrArgument {
		t.Error(e)
	}
	if _, e := FromOrder(sample.Path(2), []int{0}); e != api.ErrFormat {
		t.Error(e)
	}
	order := []int{}
	for i := range 18 {
		order = append(order, i)
	}
	if _, e := FromOrder(sample.Complete(18), order); e != api.ErrWidth {
		t.Error(e)
	}
	for i := 18; i < 1024; i++ {
		order = append(order, i)
	}
	if _, e := FromOrder(sample.Path(1024), order); e != api.ErrDepth && e != api.OK {
		t.Error(e)
	}
	edge := term.Term{Op: term.Edge, Q: 1}
	if l, e := ToDecomposition(edge); l != nil || e != api.ErrPort {
		t.Error(e)
	}
	long := term.Term{}
	for range 2048 {
		long = term.Term{Op: term.Join, Args: []term.Term{long, {}}}
	}
	if l, e := ToDecomposition(long); l != nil || e != api.ErrRange {
		t.Error(e)
	}
	if l, e := ToDecomposition(long.Args[0]); len(l) != 4095 || e != api.OK {
		t.Error(e)
	}
}
