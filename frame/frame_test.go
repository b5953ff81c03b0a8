package frame

import (
	"math/bits"
	"math/rand"
	"slices"
	"testing"

	"palmette/api"
	"palmette/bitset"
	"palmette/graph"
	"palmette/sample"
	"palmette/treedecomp"
)

func random(r *rand.Rand, n int) (treedecomp.Tree, *graph.Graph) {
	parents, sets, g := sample.Tree(r.Intn, n)
	var t treedecomp.Tree
	for i, p := range parents {
		t = append(t, treedecomp.Bag{Parent: p, Vertices: bitset.Of(sets[i]...)})
	}
	t, _ = t.Reroot(r.Intn(n))
	return t, g
}

// P45.1 to P45.6.
func TestRandomFrames(t *testing.T) {
	r := rand.New(rand.NewSource(1))
	for range 200 {
		n := 1 + r.Intn(20)
		x, g := random(r, n)
		f, e := New(x)
		if e != api.OK || f.Len() != n || !treedecomp.Equal(f.Bags(), x) || f.Root() != x.Root() || f.Fits(g) != api.OK {
			t.Fatal(e)
		}
		var all bitset.Set
		onPath := map[int]int{}
		for b := range n {
			size, depth, light := 0, 0, 0
			for o := range n {
				for p := o; p >= 0; p = x[p].Parent {
					if p == b {
						size++
					}
				}
			}
			for p := b; p >= 0; p = x[p].Parent {
				if q := x[p].Parent; q >= 0 {
					depth++
					if f.HeavyChild(q) != p {
						light++
					}
				}
			}
			heavy, most := -1, 0
			for _, c := range x.Children()[b] {
				if s := f.SubtreeSize(c); s > most {
					heavy, most = c, s
				}
			}
			adhesion := bitset.Set{}
			if p := x[b].Parent; p >= 0 {
				adhesion = x[b].Vertices.Intersect(x[p].Vertices)
			}
			if f.SubtreeSize(b) != size || f.Depth(b) != depth || f.HeavyChild(b) != heavy || f.Adhesion(b) != adhesion || f.Bag(b) != x[b].Vertices || f.Parent(b) != x[b].Parent || !slices.Equal(f.Children(b), x.Children()[b]) || light > bits.Len(uint(n)) {
				t.Fatal(b)
			}
			l := f.LightChildren(b)
			if i := slices.Index(f.Children(b), heavy); i >= 0 {
				if want := slices.Delete(f.Children(b), i, i+1); !slices.Equal(l, want) {
					t.Fatal(l, want)
				}
			} else if len(l) > 0 {
				t.Fatal(l)
			}
			path := f.HeavyPath(b)
			for i, p := range path {
				if i == 0 && p != b || i > 0 && p != f.HeavyChild(path[i-1]) || i == len(path)-1 && f.HeavyChild(p) != -1 {
					t.Fatal(path)
				}
				if q := x[b].Parent; q < 0 || f.HeavyChild(q) != b {
					onPath[p]++
				}
			}
			all = all.Union(x[b].Vertices)
		}
		for b := range n {
			if onPath[b] != 1 {
				t.Fatal("paths", onPath)
			}
		}
		if f.Vertices() != all {
			t.Fatal("Vertices")
		}
		checkHomes(t, f, x, all)
		checkEdits(t, r, f, x, g)
		checkLeaves(t, r, f, x)
	}
}

func checkHomes(t *testing.T, f *Frame, x treedecomp.Tree, all bitset.Set) {
	top := func(has func(b int) bool) (int, bool) {
		for b := range x {
			if has(b) && (x[b].Parent < 0 || !has(x[b].Parent)) {
				return b, true
			}
		}
		return 0, false
	}
	for u := -1; u < 40; u++ {
		want, is := top(func(b int) bool { return x[b].Vertices.Has(u) })
		if h, got := f.VertexHome(u); h != want || got != is {
			t.Fatal(u, h)
		}
		for v := range 40 {
			want, is := top(func(b int) bool { return u != v && x[b].Vertices.Has(u) && x[b].Vertices.Has(v) })
			if h, got := f.EdgeHome(u, v); h != want || got != is {
				t.Fatal(u, v, h, want)
			}
		}
	}
}

func checkEdits(t *testing.T, r *rand.Rand, f *Frame, x treedecomp.Tree, g *graph.Graph) {
	for range 20 {
		e := graph.Edit{Op: r.Intn(9), U: r.Intn(30), V: r.Intn(30)}
		after := g.Clone()
		want := after.Apply(e)
		if want == api.OK {
			want = x.CheckGraph(after)
		}
		if got := f.AllowsEdit(g, e); got != want {
			t.Fatal(e, got, want)
		}
	}
}

func checkLeaves(t *testing.T, r *rand.Rand, f *Frame, x treedecomp.Tree) {
	up := r.Intn(len(x))
	has := bitset.Of(100, 101)
	for v := range x[up].Vertices.All() {
		if r.Intn(2) == 0 && has.Len() < 4 {
			has = has.With(v)
		}
	}
	more, e := f.AddLeaf(up, has)
	if e != api.OK || more.Len() != f.Len()+1 || more.Parent(f.Len()) != up || more.Bag(f.Len()) != has {
		t.Fatal(e)
	}
	if less, e := more.RemoveLeaf(f.Len()); e != api.OK || !less.Equal(f) || more.Equal(f) {
		t.Fatal(e)
	}
	b := r.Intn(len(x))
	less, e := f.RemoveLeaf(b)
	if b == f.Root() || len(f.Children(b)) > 0 {
		if less != nil || e != api.ErrState {
			t.Fatal(e)
		}
		return
	}
	last := len(x) - 1
	if e != api.OK || less.Len() != last || b < last && less.Bag(b) != x[last].Vertices {
		t.Fatal(e)
	}
	for i := range last {
		old := i
		if i == b {
			old = last
		}
		p := x[old].Parent
		if p == last {
			p = b
		}
		if less.Parent(i) != p {
			t.Fatal(i, p)
		}
	}
}

func TestExample(t *testing.T) {
	f, _ := New(treedecomp.Tree{{Parent: 1, Vertices: bitset.Of(1, 2)}, {Parent: -1, Vertices: bitset.Of(2, 3)}, {Parent: 1, Vertices: bitset.Of(2, 4)}})
	a, _ := f.VertexHome(2)
	b, _ := f.VertexHome(4)
	c, _ := f.EdgeHome(2, 4)
	d, _ := f.EdgeHome(3, 2)
	if f.SubtreeSize(1) != 3 || f.HeavyChild(1) != 0 || !slices.Equal(f.LightChildren(1), []int{2}) || a != 1 || b != 2 || c != 2 || d != 1 {
		t.Error(a, b, c, d)
	}
	g, _ := graph.Build([]graph.Vertex{{Id: 1}, {Id: 2}, {Id: 3}}, nil)
	if f.AllowsEdit(g, graph.Edit{Op: graph.AddEdge, U: 2, V: 3}) != api.OK || f.AllowsEdit(g, graph.Edit{Op: graph.AddEdge, U: 1, V: 3}) != api.ErrNotInBag {
		t.Error("AllowsEdit")
	}
	l := f.Bags()
	l[0].Parent = 9
	f.Children(1)[0] = 9
	if f.Parent(0) != 1 || f.Children(1)[0] != 0 {
		t.Error("shared")
	}
}

func TestErrors(t *testing.T) {
	long := make(treedecomp.Tree, 1025)
	for i := range long {
		long[i].Parent = i - 1
	}
	for i, x := range []struct {
		t    treedecomp.Tree
		want api.Errno
	}{{nil, api.ErrRange}, {treedecomp.Tree{{Parent: 0}}, api.ErrFormat}, {long, api.ErrRange}, {treedecomp.Tree{{Parent: -1, Vertices: bitset.Below(5)}}, api.ErrWidth}} {
		if f, e := New(x.t); f != nil || e != x.want {
			t.Error(i, e)
		}
	}
	full, e := New(long[:1024])
	if e != api.OK || full.Depth(1023) != 1023 {
		t.Fatal(e)
	}
	f, _ := New(treedecomp.Tree{{Parent: -1, Vertices: bitset.Of(1)}, {Parent: 0, Vertices: bitset.Of(2)}})
	for i, x := range []struct {
		f    *Frame
		up   int
		has  bitset.Set
		want api.Errno
	}{{full, 1024, bitset.Below(9), api.ErrNotFound}, {f, -1, bitset.Below(9), api.ErrNotFound}, {full, 0, bitset.Below(9), api.ErrRange}, {f, 0, bitset.Below(5), api.ErrWidth}, {f, 0, bitset.Of(1, 2), api.ErrDuplicate}, {f, 1, bitset.Of(1), api.ErrDuplicate}, {nil, 0, bitset.Set{}, api.ErrArgument}} {
		if y, e := x.f.AddLeaf(x.up, x.has); y != nil || e != x.want {
			t.Error(i, e)
		}
	}
	if y, e := f.RemoveLeaf(2); y != nil || e != api.ErrNotFound {
		t.Error(e)
	}
	if f.Fits(nil) != api.ErrArgument || f.AllowsEdit(nil, graph.Edit{}) != api.ErrArgument || f.AllowsEdit(sample.Path(3), graph.Edit{Op: 99}) != api.ErrNotFound {
		t.Error("Fits")
	}
	var none *Frame
	for _, x := range []struct {
		f *Frame
		b int
	}{{f, -1}, {f, 2}, {none, 0}} {
		if x.f.Parent(x.b) != -1 || x.f.HeavyChild(x.b) != -1 || !x.f.Bag(x.b).IsEmpty() || len(x.f.Children(x.b))+len(x.f.LightChildren(x.b))+len(x.f.HeavyPath(x.b)) != 0 || x.f.SubtreeSize(x.b) != 0 || x.f.Depth(x.b) != 0 || !x.f.Adhesion(x.b).IsEmpty() {
			t.Error(x.b)
		}
	}
	_, is := none.VertexHome(0)
	_, has := none.EdgeHome(0, 1)
	_, e = none.RemoveLeaf(0)
	if none.Bags() != nil || none.Len() != 0 || none.Root() != -1 || is || has || !none.Vertices().IsEmpty() || none.Fits(nil) != api.ErrArgument || none.AllowsEdit(nil, graph.Edit{}) != api.ErrArgument || e != api.ErrArgument || !none.Equal(nil) || none.Equal(f) || f.Equal(nil) {
		t.Error("nil")
	}
}
