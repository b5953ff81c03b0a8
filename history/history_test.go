package history

import (
	"math/rand"
	"reflect"
	"slices"
	"testing"

	"palmette/api"
	"palmette/bignat"
	"palmette/bitset"
	"palmette/dynamic"
	"palmette/frame"
	"palmette/graph"
	"palmette/kernel"
	"palmette/semiring"
	"palmette/toptree"
	"palmette/treedecomp"
	"palmette/weighted"
)

func evaluator() *dynamic.Evaluator[bignat.Nat] {
	var r semiring.Natural
	f, _ := frame.New(treedecomp.Tree{{Parent: -1, Vertices: bitset.Of(0, 1, 2)}, {Parent: 0, Vertices: bitset.Of(2, 3)}})
	x, _ := toptree.New(f)
	k, _ := kernel.Parse("v (not (adj 0 0))")
	l, e := dynamic.New[bignat.Nat](graph.New(), x, k, r, weighted.Unit[bignat.Nat]{R: r})
	if e != api.OK {
		panic(e)
	}
	return l
}

func add(id int) graph.Edit { return graph.Edit{Op: graph.AddVertex, U: id} }

func TestExample(t *testing.T) {
	h, e := New(evaluator())
	if e != api.OK || h.Len() != 1 || h.Current() != 0 || h.Parent(0) != -1 {
		t.Fatal(e)
	}
	must := func(e api.Errno) {
		t.Helper()
		if e != api.OK {
			t.Fatal(e)
		}
	}
	h.Apply(add(0))
	h.Apply(add(1), add(2))
	must(h.Undo())
	must(h.Undo())
	if v, e := h.Apply(add(3)); v != 3 || e != api.OK || h.Parent(3) != 0 {
		t.Fatal(v, e)
	}
	must(h.Undo())
	must(h.Redo())
	if h.Current() != 3 {
		t.Error(h.Current())
	}
	must(h.Checkout(2))
	must(h.Undo())
	must(h.Undo())
	must(h.Redo())
	if h.Current() != 1 {
		t.Error(h.Current())
	}
	must(h.Redo())
	if p, e := h.Path(3, 2); e != api.OK || !slices.Equal(p, []int{3, 0, 1, 2}) || h.Current() != 2 || h.Redo() != api.ErrState {
		t.Error(p)
	}
	if !slices.Equal(h.Children(0), []int{1, 3}) {
		t.Error(h.Children(0))
	}
}

// model is a plain version tree.
type model struct{ parent, redo []int }

// P49.1 to P49.6 on random operations.
func TestRandomOperations(t *testing.T) {
	r := rand.New(rand.NewSource(1))
	for range 40 {
		h, _ := New(evaluator())
		m := model{[]int{-1}, []int{-1}}
		now := 0
		enter := func(v int) {
			now = v
			for p := m.parent[v]; p >= 0; v, p = p, m.parent[p] {
				m.redo[p] = v
			}
		}
		for range 40 {
			l, _ := h.At(h.Current())
			var e api.Errno
			v, want := 0, api.OK
			created := true
			switch r.Intn(7) {
			case 0, 1:
				es := []graph.Edit{{Op: r.Intn(8), U: r.Intn(4), V: r.Intn(4)}, {Op: r.Intn(8), U: r.Intn(4), V: r.Intn(4)}}[:r.Intn(3)]
				_, want = l.ApplyAll(es)
				v, e = h.Apply(es...)
				if c, is := h.Change(v); e == api.OK && (!is || !slices.Equal(c.Edits, es) || c.Pin != nil || c.Unpin != nil) {
					t.Fatal(c)
				}
			case 2:
				p := weighted.Constraint{U: r.Intn(4), V: -1, In: r.Intn(2) == 0}
				_, want = l.Pin(p)
				v, e = h.Pin(p)
				if c, is := h.Change(v); e == api.OK && (!is || !reflect.DeepEqual(c, Change{Pin: []weighted.Constraint{p}})) {
					t.Fatal(c)
				}
			case 3:
				u := r.Intn(4)
				_, want = l.Unpin(0, u, -1)
				v, e = h.Unpin(0, u, -1)
				if c, is := h.Change(v); e == api.OK && (!is || !reflect.DeepEqual(c, Change{Unpin: []weighted.Constraint{{U: u, V: -1}}})) {
					t.Fatal(c)
				}
			case 4:
				created = false
				if m.parent[now] < 0 {
					want = api.ErrState
				} else {
					enter(m.parent[now])
				}
				e = h.Undo()
			case 5:
				created = false
				if m.redo[now] < 0 {
					want = api.ErrState
				} else {
					enter(m.redo[now])
				}
				e = h.Redo()
			case 6:
				created = false
				to := r.Intn(len(m.parent) + 1)
				if to == len(m.parent) {
					want = api.ErrNotFound
				} else {
					enter(to)
				}
				e = h.Checkout(to)
			}
			if e != want || e != api.OK && v != 0 {
				t.Fatal(e, want)
			}
			if created && e == api.OK {
				if v != len(m.parent) {
					t.Fatal(v)
				}
				m.parent, m.redo = append(m.parent, now), append(m.redo, -1)
				enter(v)
			}
			if h.Current() != now || h.Len() != len(m.parent) {
				t.Fatal(h.Current(), now)
			}
		}
		checkTree(t, r, h, m)
	}
}

func checkTree(t *testing.T, r *rand.Rand, h *History[bignat.Nat], m model) {
	start, _ := h.At(0)
	for v := range m.parent {
		if h.Parent(v) != m.parent[v] {
			t.Fatal(v)
		}
		path, _ := h.Path(0, v)
		l := start
		for _, s := range path[1:] {
			c, _ := h.Change(s)
			switch {
			case len(c.Pin) == 1:
				l, _ = l.Pin(c.Pin[0])
			case len(c.Unpin) == 1:
				l, _ = l.Unpin(c.Unpin[0].Track, c.Unpin[0].U, c.Unpin[0].V)
			default:
				l, _ = l.ApplyAll(c.Edits)
			}
		}
		at, is := h.At(v)
		again, _ := h.At(v)
		if !is || at != again || !at.Equal(l) {
			t.Fatal("replay", v)
		}
		for _, c := range h.Children(v) {
			if m.parent[c] != v {
				t.Fatal(c)
			}
		}
		to := r.Intn(len(m.parent))
		path, _ = h.Path(v, to)
		if path[0] != v || path[len(path)-1] != to {
			t.Fatal(path)
		}
		seen := map[int]bool{}
		for i, s := range path {
			if seen[s] || i > 0 && m.parent[s] != path[i-1] && m.parent[path[i-1]] != s {
				t.Fatal(path)
			}
			seen[s] = true
		}
	}
	c := h.Clone()
	h.Checkout(0)
	c.Apply(graph.Edit{Op: graph.SetVertexLabel, U: 99})
	n := c.Len()
	c.Checkout(0)
	c.Apply()
	if c.Len() != n+1 || h.Len() != n || h.Current() != 0 || len(h.Children(0)) != len(c.Children(0))-1 {
		t.Fatal("Clone")
	}
}

func TestErrors(t *testing.T) {
	if h, e := New[bignat.Nat](nil); h != nil || e != api.ErrArgument {
		t.Error(e)
	}
	h, _ := New(evaluator())
	for range MaxVersions - 1 {
		if _, e := h.Apply(); e != api.OK {
			t.Fatal(e)
		}
	}
	_, e1 := h.Apply(graph.Edit{Op: 99})
	_, e2 := h.Pin(weighted.Constraint{Track: 9})
	_, e3 := h.Unpin(9, 9, 9)
	if e1 != api.ErrLimit || e2 != api.ErrLimit || e3 != api.ErrLimit || h.Len() != 4096 || h.Current() != 4095 {
		t.Error(e1, e2, e3)
	}
	for _, v := range []int{-1, 4096} {
		l, is := h.At(v)
		c, has := h.Change(v)
		p, e := h.Path(v, 0)
		q, f := h.Path(0, v)
		if l != nil || is || has || !reflect.DeepEqual(c, Change{}) || p != nil || q != nil || e != api.ErrNotFound || f != api.ErrNotFound || h.Checkout(v) != api.ErrNotFound || h.Parent(v) != -1 || h.Children(v) != nil {
			t.Error(v)
		}
	}
	if _, is := h.Change(0); is {
		t.Error("Change")
	}
	var none *History[bignat.Nat]
	_, e1 = none.Apply()
	_, e2 = none.Pin(weighted.Constraint{})
	_, e3 = none.Unpin(0, 0, 0)
	_, e4 := none.Path(0, 0)
	_, is := none.At(0)
	_, has := none.Change(0)
	if e1 != api.ErrArgument || e2 != e1 || e3 != e1 || e4 != e1 || none.Undo() != e1 || none.Redo() != e1 || none.Checkout(0) != e1 || none.Current() != -1 || none.Parent(0) != -1 || none.Len() != 0 || none.Children(0) != nil || is || has || none.Clone() != nil {
		t.Error("nil")
	}
}
