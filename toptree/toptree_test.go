package toptree

import (
	"math/bits"
	"math/rand"
	"reflect"
	"slices"
	"testing"

	"palmette/api"
	"palmette/bitset"
	"palmette/frame"
	"palmette/graph"
	"palmette/sample"
	"palmette/term"
	"palmette/treedecomp"
)

func random(r *rand.Rand, n int) (*frame.Frame, *graph.Graph) {
	parents, sets, g := sample.Tree(r.Intn, n)
	var t treedecomp.Tree
	for i, p := range parents {
		t = append(t, treedecomp.Bag{Parent: p, Vertices: bitset.Of(sets[i]...)})
	}
	f, e := frame.New(t)
	if e != api.OK {
		panic(e)
	}
	return f, g
}

// split follows the document.
func split(weights []int) int {
	total, sum := 0, 0
	for _, w := range weights {
		total += w
	}
	for i, w := range weights {
		if sum += w; 2*sum >= total {
			return min(i+1, len(weights)-1)
		}
	}
	return 0
}

// bagsOf returns the bags of a cluster.
func bagsOf(t *Tree, at int) bitset.Set {
	n, _ := t.Node(at)
	if n.Kind == Leaf {
		return bitset.Of(n.Bag)
	}
	var r bitset.Set
	for _, c := range n.Children {
		r = r.Union(bagsOf(t, c))
	}
	return r
}

// P46.1 to P46.5.
func TestRandomTrees(t *testing.T) {
	r := rand.New(rand.NewSource(1))
	for range 150 {
		n := 1 + r.Intn(25)
		f, g := random(r, n)
		x, e := New(f)
		if e != api.OK || !x.Frame().Equal(f) || x.Parent(x.Root()) != -1 || x.Root() != x.Len()-1 || x.Depth() > 10*bits.Len(uint(n))+10 {
			t.Fatal(e)
		}
		for at := range x.Len() {
			checkCluster(t, x, f, g, at)
		}
		for b := range n {
			leaf, is := x.LeafOf(b)
			path := x.PathToRoot(b)
			node, _ := x.Node(leaf)
			if !is || node.Kind != Leaf || node.Bag != b || path[0] != leaf || path[len(path)-1] != x.Root() {
				t.Fatal(b)
			}
			for i := range path[1:] {
				if x.Parent(path[i]) != path[i+1] {
					t.Fatal(path)
				}
			}
		}
		whole, e := x.Term(g)
		h, f2 := term.Graph(whole)
		s, _ := term.Check(whole)
		if e != api.OK || f2 != api.OK || !h.Equal(g) || s.Ports != 0 || term.Width(whole) > MaxPorts {
			t.Fatal(e, f2)
		}
	}
}

func checkCluster(t *testing.T, x *Tree, f *frame.Frame, g *graph.Graph, at int) {
	n, is := x.Node(at)
	if !is || n.Boundary.Len() > 8 {
		t.Fatal(n)
	}
	for i, c := range n.Children {
		if x.Parent(c) != at || i == len(n.Children)-1 && c != at-1 {
			t.Fatal("postorder", at)
		}
	}
	shared := func(c int) bitset.Set { return f.Adhesion(c) }
	below := bitset.Set{}
	if h := f.HeavyChild(n.Bag); h >= 0 {
		below = shared(h)
	}
	inside := bagsOf(x, at)
	switch n.Kind {
	case Leaf:
		if len(n.Children) > 0 || n.Boundary != f.Bag(n.Bag) {
			t.Fatal(n)
		}
	case Spine:
		light := bitset.Set{}
		for _, c := range f.LightChildren(n.Bag) {
			light = light.Union(subtree(f, c))
		}
		if n.Boundary != f.Adhesion(n.Bag).Union(below) || inside != light.With(n.Bag) {
			t.Fatal(n)
		}
	case Rake:
		checkRake(t, x, f, at, n)
	case Path:
		checkPath(t, x, f, at, n)
	}
	checkPorts(t, x, f, g, at, n, inside)
	m, is := x.Merge(at)
	if is != (len(n.Children) > 0) {
		t.Fatal("Merge")
	}
	if !is {
		return
	}
	var union bitset.Set
	for _, c := range n.Children {
		y, _ := x.Node(c)
		union = union.Union(y.Boundary)
	}
	all, own := union.Elements(), n.Boundary.Elements()
	for k, list := range [][]int{m.Left, m.Right} {
		var want []int
		if k < len(n.Children) {
			y, _ := x.Node(n.Children[k])
			for _, v := range y.Boundary.Elements() {
				want = append(want, slices.Index(all, v))
			}
		}
		if !slices.Equal(list, want) {
			t.Fatal(list, want)
		}
	}
	var forget []int
	for i, v := range all {
		if !n.Boundary.Has(v) {
			forget = append(forget, i)
		}
		if m.Result[i] != slices.Index(own, v) {
			t.Fatal(m)
		}
	}
	if !slices.Equal(m.Forget, forget) || len(m.Result) != len(all) || len(all) > MaxPorts || !n.Boundary.SubsetOf(union) {
		t.Fatal(m)
	}
}

func subtree(f *frame.Frame, b int) bitset.Set {
	r := bitset.Of(b)
	for _, c := range f.Children(b) {
		r = r.Union(subtree(f, c))
	}
	return r
}

func checkRake(t *testing.T, x *Tree, f *frame.Frame, at int, n Node) {
	inside := bagsOf(x, at)
	var items, weights []int
	var boundary bitset.Set
	for _, c := range f.LightChildren(n.Bag) {
		if inside.Has(c) {
			items, weights = append(items, c), append(weights, f.SubtreeSize(c))
			boundary = boundary.Union(f.Adhesion(c))
		}
	}
	var first bitset.Set
	for _, c := range items[:split(weights)] {
		first = first.Union(subtree(f, c))
	}
	if len(items) < 2 || bagsOf(x, n.Children[0]) != first || n.Boundary != boundary {
		t.Fatal(n)
	}
}

func checkPath(t *testing.T, x *Tree, f *frame.Frame, at int, n Node) {
	inside := bagsOf(x, at)
	var items, weights []int
	for _, b := range f.HeavyPath(n.Bag) {
		if inside.Has(b) {
			items, weights = append(items, b), append(weights, f.SubtreeSize(b)-f.SubtreeSize(f.HeavyChild(b)))
		}
	}
	boundary := f.Adhesion(items[0])
	if h := f.HeavyChild(items[len(items)-1]); h >= 0 {
		boundary = boundary.Union(f.Adhesion(h))
	}
	k := split(weights)
	first := bagsOf(x, n.Children[0])
	for i, b := range items {
		if first.Has(b) != (i < k) {
			t.Fatal(n, items, k)
		}
	}
	if len(items) < 2 || n.Boundary != boundary {
		t.Fatal(n)
	}
}

func checkPorts(t *testing.T, x *Tree, f *frame.Frame, g *graph.Graph, at int, n Node, inside bitset.Set) {
	var want uint16
	for p, v := range n.Boundary.Elements() {
		home, _ := f.VertexHome(v)
		_, is := g.Vertex(v)
		present := is && inside.Has(home)
		for _, y := range g.Edges() {
			h, _ := f.EdgeHome(y.U, y.V)
			present = present || inside.Has(h) && (y.U == v || y.V == v)
		}
		if present {
			want |= 1 << p
		}
	}
	if got, e := x.PresentPorts(g, at); got != want || e != api.OK {
		t.Fatal(got, want)
	}
}

func TestExample(t *testing.T) {
	f, _ := frame.New(treedecomp.Tree{{Parent: 1, Vertices: bitset.Of(1, 2)}, {Parent: -1, Vertices: bitset.Of(2, 3)}, {Parent: 1, Vertices: bitset.Of(2, 4)}})
	x, _ := New(f)
	want := []Node{{Leaf, 1, nil, bitset.Of(2, 3)}, {Leaf, 2, nil, bitset.Of(2, 4)}, {Spine, 2, []int{1}, bitset.Of(2)}, {Spine, 1, []int{0, 2}, bitset.Of(2)}, {Leaf, 0, nil, bitset.Of(1, 2)}, {Spine, 0, []int{4}, bitset.Of(2)}, {Path, 1, []int{3, 5}, bitset.Set{}}}
	for at, w := range want {
		if n, is := x.Node(at); !is || n.Kind != w.Kind || n.Bag != w.Bag || !slices.Equal(n.Children, w.Children) || n.Boundary != w.Boundary {
			t.Error(at, n)
		}
	}
	if x.Len() != 7 || x.Depth() != 4 || !slices.Equal(x.PathToRoot(2), []int{1, 2, 3, 6}) {
		t.Error(x.Len(), x.Depth())
	}
	g, _ := graph.Build([]graph.Vertex{{Id: 2, Weight: 7}, {Id: 3}, {Id: 4}}, []graph.Edge{{U: 2, V: 3}, {U: 2, V: 4}})
	whole, e := x.Term(g)
	if s, _ := term.Format(whole); e != api.OK || s != "f0(j(f1(j(j(j(v0,2,0,7)(v1,3,0,0))(e0,1,0,0))(f1(j(v1,4,0,0)(e0,1,0,0)))))(n))" {
		t.Error(s)
	}
	leaf, e := x.LeafTerm(g, 1)
	if s, _ := term.Format(leaf); e != api.OK || s != "j(j(v0,2,0,7)(v1,3,0,0))(e0,1,0,0)" {
		t.Error(s)
	}
	if leaf, e := x.LeafTerm(g, 0); e != api.OK || leaf.Op != term.Empty {
		t.Error(leaf)
	}
}

// P46.2: lists of arbitrary merges.
func TestLists(t *testing.T) {
	m := Merge{Left: []int{0, 2, 3}, Right: []int{1, 2}, Forget: []int{3, 1}, Result: []int{5, -1, 4, -1}}
	for i, x := range []struct {
		first, second uint16
		want          [4][]int
	}{
		{7, 3, [4][]int{{0, 2, 3}, {1, 2}, {3, 1}, {5, 4}}}, {5, 2, [4][]int{{0, 3}, {2}, {3}, {5, 4}}}, {0, 0, [4][]int{}}, {0xfff8, 0xfffc, [4][]int{}}, {1, 1, [4][]int{{0}, {1}, {1}, {5}}},
	} {
		a, b, c, d := m.Lists(x.first, x.second)
		for k, l := range [4][]int{a, b, c, d} {
			if !slices.Equal(l, x.want[k]) {
				t.Error(i, k, l)
			}
		}
	}
	if _, _, _, d := (Merge{Left: []int{9, -3, 0}, Result: []int{8}}).Lists(7, 7); !slices.Equal(d, []int{8}) {
		t.Error(d)
	}
	if a, b, c, d := (Merge{}).Lists(0xffff, 0xffff); len(a)+len(b)+len(c)+len(d) != 0 {
		t.Error(a, b, c, d)
	}
}

func TestErrors(t *testing.T) {
	f, _ := frame.New(treedecomp.Tree{{Parent: -1, Vertices: bitset.Of(0, 1)}})
	x, _ := New(f)
	g := sample.Path(2)
	for _, at := range []int{-1, 2} {
		n, is := x.Node(at)
		m, has := x.Merge(at)
		ports, e := x.PresentPorts(g, at)
		if is || has || !reflect.DeepEqual(n, Node{}) || !reflect.DeepEqual(m, Merge{}) || ports != 0 || e != api.ErrNotFound || x.Parent(at) != -1 {
			t.Error(at)
		}
	}
	for _, bag := range []int{-1, 1} {
		l, is := x.LeafOf(bag)
		y, e := x.LeafTerm(g, bag)
		if l != 0 || is || y.Op != 0 || e != api.ErrNotFound || len(x.PathToRoot(bag)) != 0 {
			t.Error(bag)
		}
	}
	for want, g := range map[api.Errno]*graph.Graph{api.ErrArgument: nil, api.ErrNotFound: sample.Path(3)} {
		_, e1 := x.PresentPorts(g, 99)
		_, e2 := x.LeafTerm(g, 99)
		_, e3 := x.Term(g)
		if e1 != want || e2 != want || e3 != want {
			t.Error(e1, e2, e3)
		}
	}
	if y, e := New(nil); y != nil || e != api.ErrArgument {
		t.Error(e)
	}
	var none *Tree
	_, is := none.Node(0)
	_, has := none.LeafOf(0)
	_, merges := none.Merge(0)
	_, e1 := none.PresentPorts(g, 0)
	_, e2 := none.LeafTerm(g, 0)
	_, e3 := none.Term(g)
	if none.Frame() != nil || none.Len() != 0 || is || none.Root() != -1 || has || none.Parent(0) != -1 || none.PathToRoot(0) != nil || none.Depth() != 0 || merges || e1 != api.ErrArgument || e2 != e1 || e3 != e1 {
		t.Error("nil")
	}
}

func TestLargeFrame(t *testing.T) {
	var l treedecomp.Tree
	for i := range 1023 {
		l = append(l, treedecomp.Bag{Parent: i - 1, Vertices: bitset.Of(i, i+1)})
	}
	f, _ := frame.New(l)
	x, _ := New(f)
	whole, e := x.Term(sample.Path(1024))
	if g, f := term.Graph(whole); e != api.OK || f != api.OK || !g.Equal(sample.Path(1024)) || x.Depth() > 110 {
		t.Error(e, f, x.Depth())
	}
}
