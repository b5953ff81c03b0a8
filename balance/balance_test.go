package balance

import (
	"math/bits"
	"math/rand"
	"slices"
	"testing"

	"palmette/api"
	"palmette/bitset"
	"palmette/treedecomp"
)

func chain(n int) treedecomp.Tree {
	var t treedecomp.Tree
	for i := range n {
		t = append(t, treedecomp.Bag{Parent: i - 1, Vertices: bitset.Of(i, i+1)})
	}
	return t
}

func random(r *rand.Rand, n int) treedecomp.Tree {
	t := chain(1)
	for i := 1; i < n; i++ {
		p := r.Intn(i)
		v, _ := t[p].Vertices.Min()
		t = append(t, treedecomp.Bag{Parent: p, Vertices: bitset.Of(v, 100+i)})
	}
	t, _ = t.Reroot(r.Intn(n))
	return t
}

// subparts computes components by merging.
func slowSubparts(t treedecomp.Tree, part bitset.Set, at int) []bitset.Set {
	var l []bitset.Set
	rest := part.Without(at)
	for !rest.IsEmpty() {
		v, _ := rest.Min()
		c := bitset.Of(v)
		for range t {
			for i, b := range t {
				if rest.Has(i) && rest.Has(b.Parent) && (c.Has(i) || c.Has(b.Parent)) {
					c = c.With(i).With(b.Parent)
				}
			}
		}
		l = append(l, c)
		rest = rest.Minus(c)
	}
	return l
}

// P29.1 to P29.3.
func TestRandomTrees(t *testing.T) {
	r := rand.New(rand.NewSource(1))
	for range 120 {
		n := 1 + r.Intn(24)
		x := random(r, n)
		y, splitters, e := Balance(x)
		if e != api.OK || y.Check() != api.OK || len(y) != n || bitset.Of(splitters...) != bitset.Below(n) || y.Width() > 3*x.Width()+2 || y.Depth() > 2*BitLen(n) {
			t.Fatal(y, splitters, e)
		}
		for _, b := range x {
			if !slices.ContainsFunc(y, func(c treedecomp.Bag) bool { return b.Vertices.SubsetOf(c.Vertices) }) {
				t.Fatal("bag lost")
			}
		}
		index := 0
		var check func(part bitset.Set, parent int)
		check = func(part bitset.Set, parent int) {
			var border bitset.Set
			for i, b := range x {
				if b.Parent >= 0 && part.Has(i) != part.Has(b.Parent) {
					border = border.With(i).With(b.Parent)
				}
			}
			border = border.Minus(part)
			if got, e := Boundary(x, part); got != border || e != api.OK || border.Len() > 2 {
				t.Fatal(got, border)
			}
			best, size := -1, 99
			for c := range part.All() {
				parts := slowSubparts(x, part, c)
				if got, e := Split(x, part, c); e != api.OK || !slices.Equal(got, parts) {
					t.Fatal(got, parts)
				}
				most := 0
				for _, p := range parts {
					most = max(most, p.Len())
				}
				if most < size {
					best, size = c, most
				}
			}
			if c, e := Centroid(x, part); c != best || e != api.OK || 2*size > part.Len() {
				t.Fatal(c, best)
			}
			s, e := Splitter(x, part)
			vertices := x[s].Vertices
			for o := range border.All() {
				vertices = vertices.Union(x[o].Vertices)
			}
			if e != api.OK || splitters[index] != s || y[index] != (treedecomp.Bag{Parent: parent, Vertices: vertices}) || border.Len() < 2 && s != best {
				t.Fatal(index, s)
			}
			at := index
			index++
			for _, p := range slowSubparts(x, part, s) {
				check(p, at)
			}
		}
		check(bitset.Below(n), -1)
	}
}

func TestExample(t *testing.T) {
	x := chain(5)
	y, splitters, _ := Balance(x)
	if !slices.Equal(splitters, []int{2, 0, 1, 3, 4}) || y.Depth() != 3 || y[2].Vertices != bitset.Below(4) {
		t.Error(y, splitters)
	}
	if s, _ := Splitter(chain(9), bitset.Of(2, 3, 4)); s != 3 {
		t.Error(s)
	}
	// The centroid 2 is off the path between the boundary bags, and 1 is closest to it.
	star := treedecomp.Tree{{Parent: -1}, {Parent: 0}, {Parent: 1}, {Parent: 2}, {Parent: 2}, {Parent: 2}, {Parent: 1}}
	if s, e := Splitter(star, bitset.Of(1, 2, 3, 4, 5)); s != 1 || e != api.OK {
		t.Error(s, e)
	}
	for n := -3; n < 70; n++ {
		if want := bits.Len(uint(max(n, 0))); BitLen(n) != want {
			t.Error(n)
		}
	}
}

func TestErrors(t *testing.T) {
	for i, x := range []struct {
		t    treedecomp.Tree
		part bitset.Set
		want api.Errno
	}{{nil, bitset.Set{}, api.ErrRange}, {treedecomp.Tree{{Parent: 0}}, bitset.Set{}, api.ErrFormat}, {make(treedecomp.Tree, 1025), bitset.Set{}, api.ErrFormat}, {chain(3), bitset.Set{}, api.ErrFormat}, {chain(3), bitset.Of(0, 2), api.ErrFormat}, {chain(3), bitset.Of(2, 3), api.ErrFormat}} {
		b, e1 := Boundary(x.t, x.part)
		c, e2 := Centroid(x.t, x.part)
		s, e3 := Splitter(x.t, x.part)
		l, e4 := Split(x.t, x.part, 99)
		if !b.IsEmpty() || c != 0 || s != 0 || l != nil || e1 != x.want || e2 != e1 || e3 != e1 || e4 != e1 {
			t.Error(i, e1, e2, e3, e4)
		}
		if y, m, e := Balance(x.t); i < 3 && (y != nil || m != nil || e != x.want) {
			t.Error(i, e)
		}
	}
	long := make(treedecomp.Tree, 1025)
	for i := range long {
		long[i].Parent = i - 1
	}
	if _, _, e := Balance(long); e != api.ErrRange {
		t.Error(e)
	}
	if y, _, e := Balance(long[:1024]); e != api.OK || y.Depth() > 22 {
		t.Error(e)
	}
	if l, e := Split(chain(3), bitset.Of(0, 1), 2); l != nil || e != api.ErrNotFound {
		t.Error(e)
	}
	star := treedecomp.Tree{{Parent: -1}, {}, {}, {}}
	if s, e := Splitter(star, bitset.Of(0)); s != 0 || e != api.ErrWidth {
		t.Error(e)
	}
}
