package partition

import (
	"math/rand"
	"reflect"
	"slices"
	"testing"

	"palmette/api"
)

func random(r *rand.Rand, n int) *Partition {
	p, _ := New(n)
	for range r.Intn(n + 1) {
		p.Union(r.Intn(n), r.Intn(n))
	}
	return p
}

// P3.1: construction and its errors.
func TestConstruction(t *testing.T) {
	for n, want := range map[int]api.Errno{-1: api.ErrRange, 0: api.OK, 4096: api.OK, 4097: api.ErrRange} {
		if p, e := New(n); e != want || (p == nil) != (e != api.OK) {
			t.Error(n, e)
		}
		if p, e := FromBlocks(n, [][]int{{}}); e != want || (p == nil) != (e != api.OK) {
			t.Error(n, e)
		}
	}
	p, e := FromBlocks(6, [][]int{{5, 3}, {}, {1, 0, 4}})
	if e != api.OK || !reflect.DeepEqual(p.Blocks(), [][]int{{0, 1, 4}, {2}, {3, 5}}) {
		t.Error(p.Blocks(), e)
	}
	for _, x := range []struct {
		blocks [][]int
		want   api.Errno
	}{{[][]int{{0}, {3}}, api.ErrArgument}, {[][]int{{-1}}, api.ErrArgument}, {[][]int{{1}, {1}}, api.ErrDuplicate}, {[][]int{{1, 1}}, api.ErrDuplicate}, {[][]int{{1, 1}, {9}}, api.ErrDuplicate}, {[][]int{{1, 9}, {1}}, api.ErrArgument}} {
		if p, e := FromBlocks(3, x.blocks); p != nil || e != x.want {
			t.Error(x, e)
		}
	}
}

// P3.2 and P3.3 with the document's example.
func TestUnionAndSplit(t *testing.T) {
	p, _ := New(5)
	for _, x := range []struct {
		a, b int
		want bool
	}{{3, 1, true}, {1, 4, true}, {4, 3, false}, {2, 2, false}} {
		if is, e := p.Union(x.a, x.b); is != x.want || e != api.OK {
			t.Error(x)
		}
	}
	if !reflect.DeepEqual(p.Blocks(), [][]int{{0}, {1, 3, 4}, {2}}) || p.NumBlocks() != 3 || p.BlockSize(4) != 3 || p.Len() != 5 {
		t.Error(p.Blocks())
	}
	for _, a := range []int{-1, 5} {
		if is, e := p.Union(a, 0); is || e != api.ErrArgument {
			t.Error(a)
		}
		if is, e := p.Union(0, a); is || e != api.ErrArgument {
			t.Error(a)
		}
		if n, e := p.Find(a); n != 0 || e != api.ErrArgument {
			t.Error(a)
		}
		if p.Connected(a, a) || p.Connected(0, a) || p.BlockSize(a) != 0 {
			t.Error(a)
		}
	}
	if n, e := p.Find(4); n != 1 || e != api.OK {
		t.Error(n)
	}
	if e := p.Split([]int{0, 0, 0, 0}); e != api.ErrArgument || p.NumBlocks() != 3 {
		t.Error(e)
	}
	if e := p.Split([]int{0, 0, 0, 0, 7}); e != api.OK || !reflect.DeepEqual(p.Blocks(), [][]int{{0}, {1, 3}, {2}, {4}}) {
		t.Error(p.Blocks())
	}
	if !p.Connected(1, 3) || p.Connected(1, 4) {
		t.Error("Connected")
	}
}

// P3.4 and P3.6: the lattice, by comparing pairs.
func TestLattice(t *testing.T) {
	r := rand.New(rand.NewSource(1))
	for range 300 {
		n := 1 + r.Intn(8)
		a, b, c := random(r, n), random(r, n), random(r, n)
		before := a.Clone()
		meet, e := a.Meet(b)
		join, f := a.Join(b)
		if e != api.OK || f != api.OK {
			t.Fatal(e, f)
		}
		for i := range n {
			for k := range n {
				if meet.Connected(i, k) != (a.Connected(i, k) && b.Connected(i, k)) {
					t.Fatal("meet")
				}
			}
		}
		if !a.Refines(join) || !b.Refines(join) || a.Refines(c) && b.Refines(c) && !join.Refines(c) || c.Refines(a) && c.Refines(b) && !c.Refines(meet) {
			t.Fatal("order")
		}
		refines := true
		for _, block := range a.Blocks() {
			for _, x := range block {
				refines = refines && b.Connected(block[0], x)
			}
		}
		if a.Refines(b) != refines || !a.Equal(before) {
			t.Fatal("Refines")
		}
		sizes := 0
		for _, block := range a.Blocks() {
			root, _ := a.Find(block[len(block)-1])
			if root != block[0] || !slices.IsSorted(block) || a.BlockSize(block[0]) != len(block) {
				t.Fatal(block)
			}
			sizes += len(block)
		}
		if sizes != n || len(a.Blocks()) != a.NumBlocks() {
			t.Fatal(sizes)
		}
	}
}

// P3.5: copies, equality and nil.
func TestCopiesAndNil(t *testing.T) {
	p, _ := New(3)
	q := p.Clone()
	q.Union(0, 1)
	if p.Equal(q) || p.NumBlocks() != 3 || !q.Equal(q.Clone()) {
		t.Error("Clone")
	}
	four, _ := New(4)
	var none *Partition
	for _, o := range []*Partition{none, four} {
		if m, e := p.Meet(o); m != nil || e != api.ErrArgument {
			t.Error("Meet")
		}
		if m, e := p.Join(o); m != nil || e != api.ErrArgument {
			t.Error("Join")
		}
		if p.Refines(o) || p.Equal(o) {
			t.Error("Refines")
		}
	}
	if is, e := none.Union(0, 0); is || e != api.ErrArgument {
		t.Error("Union")
	}
	if n, e := none.Find(0); n != 0 || e != api.ErrArgument {
		t.Error("Find")
	}
	if m, e := none.Meet(p); m != nil || e != api.ErrArgument {
		t.Error("Meet")
	}
	if m, e := none.Join(none); m != nil || e != api.ErrArgument {
		t.Error("Join")
	}
	if none.Split(nil) != api.ErrArgument || none.Len() != 0 || none.Connected(0, 0) || none.NumBlocks() != 0 || none.BlockSize(0) != 0 || none.Blocks() != nil || none.Refines(none) || none.Clone() != nil || !none.Equal(nil) || none.Equal(p) {
		t.Error("nil")
	}
}
