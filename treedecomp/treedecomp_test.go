package treedecomp

import (
	"math/rand"
	"slices"
	"strings"
	"testing"

	"palmette/api"
	"palmette/bitset"
	"palmette/elimination"
	"palmette/graph"
	"palmette/sample"
)

func bag(parent int, l ...int) Bag { return Bag{parent, bitset.Of(l...)} }

// P26.1.
func TestCheck(t *testing.T) {
	g := sample.Path(3)
	for i, x := range []struct {
		t       Tree
		e, with api.Errno
	}{
		{nil, api.ErrRange, api.ErrRange}, {make(Tree, 4097), api.ErrRange, api.ErrRange}, {Tree{bag(1)}, api.ErrFormat, api.ErrFormat}, {Tree{bag(-2)}, api.ErrFormat, api.ErrFormat}, {Tree{bag(0)}, api.ErrFormat, api.ErrFormat}, {Tree{bag(-1), bag(-1)}, api.ErrFormat, api.ErrFormat},
		{Tree{bag(-1), bag(2), bag(1)}, api.ErrLoop, api.ErrLoop}, {Tree{bag(-1), bag(1)}, api.ErrLoop, api.ErrLoop}, {Tree{bag(-1, 0), bag(0, 1), bag(1, 0)}, api.ErrDuplicate, api.ErrDuplicate}, {Tree{bag(-1), bag(0, 5), bag(0, 5)}, api.ErrDuplicate, api.ErrDuplicate},
		{Tree{bag(-1)}, api.OK, api.ErrNotFound}, {Tree{bag(-1, 0, 1), bag(0, 2)}, api.OK, api.ErrNotInBag}, {Tree{bag(-1, 0, 1), bag(0, 1, 2, 77)}, api.OK, api.OK}, {Tree{bag(1, 0, 1), bag(-1, 1, 2)}, api.OK, api.OK},
	} {
		if e := x.t.Check(); e != x.e {
			t.Error(i, e)
		}
		if e := x.t.CheckGraph(g); e != x.with {
			t.Error(i, e)
		}
		if e := x.t.CheckGraph(nil); e != api.ErrArgument {
			t.Error(i, e)
		}
		if x.e == api.OK {
			continue
		}
		a, e1 := x.t.Reduce()
		b, e2 := x.t.Reroot(77)
		c, e3 := x.t.Restrict(bitset.Set{})
		s, e4 := x.t.Format()
		o, e5 := x.t.EliminationOrder(g)
		for _, e := range []api.Errno{e1, e2, e3, e4, e5} {
			if e != x.e {
				t.Error(i, e)
			}
		}
		if a != nil || b != nil || c != nil || s != "" || o != nil || x.t.Root() != -1 || x.t.Children() != nil || x.t.Depth() != 0 {
			t.Error(i)
		}
	}
}

// P26.2 to P26.6 on random graphs and orders.
func TestRandomTrees(t *testing.T) {
	r := rand.New(rand.NewSource(1))
	for range 300 {
		n := r.Intn(9)
		g := sample.Graph(r.Intn, n)
		o := elimination.Order(r.Perm(n))
		x, e := FromOrder(g, o)
		width, _ := elimination.Width(g, o)
		if e != api.OK || x.CheckGraph(g) != api.OK || x.Width() != width || x.Root() != len(x)-1 {
			t.Fatal(x, e)
		}
		steps, _ := elimination.Steps(g, o)
		for i, s := range steps {
			if x[i].Vertices != s.Neighbors.With(s.Vertex) {
				t.Fatal(i)
			}
		}
		reduced, e := x.Reduce()
		if e != api.OK || reduced.CheckGraph(g) != api.OK || reduced.Width() != x.Width() || !Equal(reduced, slowReduce(x)) {
			t.Fatal(reduced, e)
		}
		for i, b := range reduced {
			if p := b.Parent; p >= 0 && (b.Vertices.SubsetOf(reduced[p].Vertices) || reduced[p].Vertices.SubsetOf(b.Vertices)) {
				t.Fatal(i, reduced)
			}
		}
		to := r.Intn(len(x))
		moved, e := x.Reroot(to)
		back, _ := moved.Reroot(x.Root())
		if e != api.OK || moved.Root() != to || moved.CheckGraph(g) != api.OK || !Equal(back, x) {
			t.Fatal(moved, e)
		}
		again, e := x.EliminationOrder(g)
		if w, _ := elimination.Width(g, again); e != api.OK || w > x.Width() {
			t.Fatal(again, e)
		}
		s, e := x.Format()
		if y, f := Parse(s); e != api.OK || f != api.OK || !Equal(x, y) {
			t.Fatal(s)
		}
		ids := bitset.Of(r.Perm(9)[:4]...)
		part, e := x.Restrict(ids)
		for i := range part {
			if e != api.OK || part[i] != (Bag{x[i].Parent, x[i].Vertices.Intersect(ids)}) {
				t.Fatal(part)
			}
		}
		depth := 0
		for i := range x {
			k := 0
			for p := i; p >= 0; p = x[p].Parent {
				k++
			}
			depth = max(depth, k)
			for _, c := range x.Children()[i] {
				if x[c].Parent != i {
					t.Fatal(x.Children())
				}
			}
		}
		if x.Depth() != depth {
			t.Fatal(depth)
		}
	}
}

func slowReduce(x Tree) Tree {
	x = x.Clone()
again:
	for i, b := range x {
		if b.Parent < 0 || !b.Vertices.SubsetOf(x[b.Parent].Vertices) && !x[b.Parent].Vertices.SubsetOf(b.Vertices) {
			continue
		}
		p := b.Parent
		x[p].Vertices = x[p].Vertices.Union(b.Vertices)
		var y Tree
		for k, c := range x {
			if c.Parent == i {
				c.Parent = p
			}
			if c.Parent > i {
				c.Parent--
			}
			if k != i {
				y = append(y, c)
			}
		}
		x = y
		goto again
	}
	return x
}

func TestExample(t *testing.T) {
	g := sample.Path(3)
	x, _ := FromOrder(g, elimination.Order{0, 1, 2})
	if !Equal(x, Tree{bag(1, 0, 1), bag(2, 1, 2), bag(-1, 2)}) || x.Width() != 1 {
		t.Error(x)
	}
	if y, _ := x.Reduce(); !Equal(y, Tree{bag(1, 0, 1), bag(-1, 1, 2)}) {
		t.Error(y)
	}
	if o, e := (Tree{bag(-1, 1), bag(0, 0, 1), bag(0, 2, 1)}).EliminationOrder(g); e != api.OK || !slices.Equal(o, []int{0, 2, 1}) {
		t.Error(o)
	}
	if l := x.BagsOf(1); !slices.Equal(l, []int{0, 1}) || len(x.BagsOf(-1)) != 0 || len(Tree(nil).BagsOf(0)) != 0 || Tree(nil).Width() != -1 || (Tree{bag(5, 1, 2)}).Width() != 1 {
		t.Error(l)
	}
	if y, e := FromOrder(graph.New(), nil); e != api.OK || !Equal(y, Tree{bag(-1)}) {
		t.Error(y)
	}
	for want, g := range map[api.Errno]*graph.Graph{api.ErrArgument: nil, api.ErrFormat: g} {
		if y, e := FromOrder(g, elimination.Order{0}); y != nil || e != want {
			t.Error(e)
		}
	}
	for _, root := range []int{-1, 3} {
		if y, e := x.Reroot(root); y != nil || e != api.ErrRange {
			t.Error(e)
		}
	}
	if o, e := x.EliminationOrder(sample.Path(5)); o != nil || e != api.ErrNotFound {
		t.Error(e)
	}
}

// P26.5.
func TestParse(t *testing.T) {
	for s, want := range map[string]api.Errno{
		"": api.ErrRange, "-1 {}\n": api.OK, "-1 {}": api.ErrFormat, "0 {}\n": api.ErrFormat, "-1 {}\n\n": api.ErrFormat, "-1  {}\n": api.ErrFormat, "-1{}\n": api.ErrFormat, "-2 {}\n": api.ErrFormat, "+1 {}\n": api.ErrFormat, "-1 {1024}\n": api.ErrFormat, "-1 {2 1}\n": api.ErrFormat, "-1 {}\n4096 {}\n": api.ErrFormat, "-1 {}\n4095 {}\n": api.ErrFormat, "-1 {}\n00 {}\n": api.ErrFormat, "-1 {}\n0 {}\n": api.OK, "-1 {}\n1 {}\n": api.ErrLoop, "-1 {}\n0 {3}\n0 {3}\n": api.ErrDuplicate, "-1 {}\n" + strings.Repeat("0 {}\n", 4096): api.ErrRange, strings.Repeat("x", 1<<22+1): api.ErrLong,
	} {
		if x, e := Parse(s); e != want || (x == nil) != (e != api.OK) {
			t.Errorf("%.30q %d", s, e)
		}
	}
	x := Tree{bag(-1, 4, 2), bag(0, 4)}
	if s, e := x.Format(); s != "-1 {2 4}\n0 {4}\n" || e != api.OK {
		t.Error(s)
	}
	y := x.Clone()
	y[0].Parent = 9
	if Equal(x, y) || x[0].Parent != -1 || Equal(x, x[:1]) || !Equal(nil, Tree{}) {
		t.Error("Clone")
	}
}
