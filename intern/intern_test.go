package intern

import (
	"math"
	"math/rand"
	"slices"
	"testing"

	"palmette/api"
)

// P4.1, P4.2 and P4.5.
func TestPool(t *testing.T) {
	for most, want := range map[int]api.Errno{-1: api.ErrRange, 0: api.OK, MaxCapacity: api.OK, MaxCapacity + 1: api.ErrRange} {
		if p, e := New[int](most); e != want || (p == nil) != (e != api.OK) {
			t.Error(most, e)
		}
		if p, e := NewSlices(most); e != want || (p == nil) != (e != api.OK) {
			t.Error(most, e)
		}
	}
	p, _ := New[string](2)
	for _, x := range []struct {
		k  string
		id int
		e  api.Errno
	}{{"b", 0, api.OK}, {"a", 1, api.OK}, {"b", 0, api.OK}, {"c", 0, api.ErrLimit}, {"a", 1, api.OK}} {
		if id, e := p.Intern(x.k); id != x.id || e != x.e {
			t.Error(x, id, e)
		}
	}
	if id, is := p.Find("a"); id != 1 || !is {
		t.Error(id)
	}
	if id, is := p.Find("c"); id != 0 || is || p.Len() != 2 {
		t.Error(id)
	}
	if k, is := p.Key(0); k != "b" || !is {
		t.Error(k)
	}
	for _, id := range []int{-1, 2} {
		if k, is := p.Key(id); k != "" || is {
			t.Error(k)
		}
	}
	none, _ := New[int](0)
	if id, e := none.Intern(1); id != 0 || e != api.ErrLimit {
		t.Error(e)
	}
}

// P4.2: a key that is not equal to itself.
func TestNaN(t *testing.T) {
	p, _ := New[float64](3)
	a, _ := p.Intern(math.NaN())
	b, _ := p.Intern(math.NaN())
	if _, is := p.Find(math.NaN()); is || a != 0 || b != 1 {
		t.Error(a, b)
	}
}

// P4.3.
func TestAll(t *testing.T) {
	p, _ := New[string](9)
	for _, k := range []string{"x", "z", "y"} {
		p.Intern(k)
	}
	all := p.All()
	for range 2 {
		var l []string
		for id, k := range all {
			if id != len(l) {
				t.Error(id)
			}
			if l = append(l, k); len(l) == 2 {
				break
			}
		}
		if !slices.Equal(l, []string{"x", "z"}) {
			t.Error(l)
		}
	}
}

// P4.4.
func TestCloneAndEqual(t *testing.T) {
	p, _ := New[int](5)
	p.Intern(7)
	q := p.Clone()
	if !p.Equal(q) {
		t.Error("clone")
	}
	q.Intern(8)
	if _, is := p.Find(8); is || p.Equal(q) || p.Len() != 1 {
		t.Error("independent")
	}
	o, _ := New[int](6)
	o.Intern(7)
	if p.Equal(o) {
		t.Error("capacity")
	}
	l, _ := NewSlices(5)
	l.Intern([]int{1})
	m := l.Clone()
	m.Intern([]int{2})
	if l.Equal(m) || l.Len() != 1 || m.Len() != 2 || !l.Equal(l.Clone()) {
		t.Error("slices")
	}
}

func TestSlices(t *testing.T) {
	l, _ := NewSlices(1000)
	x := []int{1, 2}
	if id, e := l.Intern(x); id != 0 || e != api.OK {
		t.Error(id, e)
	}
	x[0] = 9
	got, is := l.Get(0)
	if !is || !slices.Equal(got, []int{1, 2}) {
		t.Error(got)
	}
	got[0] = 9
	if again, _ := l.Get(0); again[0] != 1 {
		t.Error("shared")
	}
	a, _ := l.Intern(nil)
	b, _ := l.Intern([]int{})
	if a != 1 || b != 1 {
		t.Error(a, b)
	}
	r := rand.New(rand.NewSource(1))
	seen := [][]int{{1, 2}, {}}
	for range 300 {
		x := make([]int, r.Intn(3))
		for i := range x {
			x[i] = r.Intn(40) - 20
		}
		want := slices.IndexFunc(seen, func(y []int) bool { return slices.Equal(x, y) })
		if id, is := l.Find(x); is != (want >= 0) || is && id != want || !is && id != 0 {
			t.Fatal(x)
		}
		if id, _ := l.Intern(x); want < 0 && id != len(seen) || want >= 0 && id != want {
			t.Fatal(x)
		} else if want < 0 {
			seen = append(seen, x)
		}
	}
	for _, id := range []int{-1, len(seen)} {
		if x, is := l.Get(id); x != nil || is {
			t.Error(id)
		}
	}
	full, _ := NewSlices(1)
	full.Intern([]int{3})
	if id, e := full.Intern([]int{4}); id != 0 || e != api.ErrLimit || full.Len() != 1 {
		t.Error(e)
	}
}

// P4.6.
func TestNil(t *testing.T) {
	var p *Pool[int]
	var l *Slices
	if _, e := p.Intern(1); e != api.ErrArgument {
		t.Error(e)
	}
	if _, e := l.Intern(nil); e != api.ErrArgument {
		t.Error(e)
	}
	for range p.All() {
		t.Error("All")
	}
	if _, is := p.Find(0); is {
		t.Error("Find")
	}
	if _, is := p.Key(0); is {
		t.Error("Key")
	}
	if _, is := l.Find(nil); is {
		t.Error("Find")
	}
	if _, is := l.Get(0); is {
		t.Error("Get")
	}
	q, _ := New[int](1)
	m, _ := NewSlices(1)
	if p.Len() != 0 || l.Len() != 0 || p.Clone() != nil || l.Clone() != nil || !p.Equal(nil) || !l.Equal(nil) || p.Equal(q) || q.Equal(p) || l.Equal(m) || m.Equal(l) {
		t.Error("nil")
	}
}
