package bitset

import (
	"math/rand"
	"slices"
	"testing"

	"palmette/api"
)

func randomSet(r *rand.Rand) Set {
	var s Set
	for range r.Intn(12) {
		s = s.With([]int{r.Intn(MaxElements), r.Intn(12), 60 + r.Intn(8)}[r.Intn(3)])
	}
	return s
}

// P1.1: construction, membership and set algebra.
func TestAlgebra(t *testing.T) {
	r := rand.New(rand.NewSource(1))
	for range 500 {
		a, b := randomSet(r), randomSet(r)
		for n := -1; n <= MaxElements; n++ {
			x, y := a.Has(n), b.Has(n)
			if a.Union(b).Has(n) != (x || y) || a.Intersect(b).Has(n) != (x && y) || a.Minus(b).Has(n) != (x && !y) {
				t.Fatal(a, b, n)
			}
			if in := n >= 0 && n < MaxElements; a.With(n).Has(n) != in || a.Without(n).Has(n) {
				t.Fatal(a, n)
			}
		}
		if a.SubsetOf(b) != (a.Union(b) == b) || a.Len() != len(a.Elements()) || Of(a.Elements()...) != a {
			t.Fatal(a, b)
		}
	}
	if Below(0) != (Set{}) || Below(65).Len() != 65 || !Below(65).Has(64) || Below(65).Has(65) || Below(1024) != Below(5000) || Below(1024).Len() != 1024 || Below(-9) != (Set{}) {
		t.Error("Below")
	}
	if Of(-1, 1024, 5, 5) != Of(5) || Of(5).With(-1) != Of(5) || Of(5).Without(1024) != Of(5) || Of(1).Has(-63) {
		t.Error("out of range")
	}
	if Of(0)[0] != 1 || Of(64)[1] != 1 || Of(1023)[15] != 1<<63 {
		t.Error("representation")
	}
}

func TestMinMax(t *testing.T) {
	if n, is := Of(700, 64, 3).Min(); n != 3 || !is {
		t.Error(n)
	}
	if n, is := Of(700, 64, 3).Max(); n != 700 || !is {
		t.Error(n)
	}
	for _, f := range []func(Set) (int, bool){Set.Min, Set.Max} {
		if n, is := f(Set{}); n != 0 || is {
			t.Error(n)
		}
	}
	if !(Set{}).IsEmpty() || Of(1023).IsEmpty() {
		t.Error("IsEmpty")
	}
}

// P1.2: order and subsets.
func TestOrder(t *testing.T) {
	r := rand.New(rand.NewSource(2))
	for range 2000 {
		a, b := randomSet(r), randomSet(r)
		want := 0
		if top, is := a.Minus(b).Union(b.Minus(a)).Max(); is {
			want = -1
			if a.Has(top) {
				want = 1
			}
		}
		if a.Compare(b) != want || b.Compare(a) != -want {
			t.Fatal(a, b)
		}
	}
	if CompareSlices([]Set{Of(1)}, []Set{Of(1), {}}) != -1 || CompareSlices([]Set{Of(2)}, []Set{Of(1), {}}) != 1 || CompareSlices([]Set{Of(1), {}}, []Set{Of(1)}) != 1 || CompareSlices(nil, []Set{}) != 0 {
		t.Error("CompareSlices")
	}
}

func TestNextSubset(t *testing.T) {
	var all []Set
	for s := range Below(6).Subsets() {
		all = append(all, s)
	}
	if len(all) != 64 || !slices.IsSortedFunc(all, Set.Compare) {
		t.Fatal(len(all))
	}
	for _, within := range all {
		for _, from := range all {
			at := slices.IndexFunc(all, func(s Set) bool { return s.SubsetOf(within) && s.Compare(from) > 0 })
			got, is := from.NextSubset(within)
			if is != (at >= 0) || is && got != all[at] || !is && got != (Set{}) {
				t.Fatal(from, within, got, is)
			}
		}
	}
	if s, is := Of(1023).NextSubset(Below(1023)); is || s != (Set{}) {
		t.Error(s)
	}
}

// P1.4: iterators stop and can be started again.
func TestIterators(t *testing.T) {
	subsets, all := Of(2, 900).Subsets(), Of(2, 900).All()
	for range 2 {
		for range subsets {
			break
		}
		for range all {
			break
		}
	}
	if l := slices.Collect(subsets); !slices.Equal(l, []Set{{}, Of(2), Of(900), Of(2, 900)}) {
		t.Error(l)
	}
	if l := slices.Collect(all); !slices.Equal(l, []int{2, 900}) {
		t.Error(l)
	}
	if l := slices.Collect((Set{}).Subsets()); len(l) != 1 {
		t.Error(l)
	}
}

// P1.3: text form.
func TestText(t *testing.T) {
	r := rand.New(rand.NewSource(3))
	for range 500 {
		s := randomSet(r)
		if got, e := Parse(s.String()); got != s || e != api.OK {
			t.Fatal(s, e)
		}
	}
	if Of(3, 0, 12).String() != "{0 3 12}" || (Set{}).String() != "{}" {
		t.Error("String")
	}
	for s, want := range map[string]api.Errno{
		"": api.ErrFormat, "{": api.ErrFormat, "}": api.ErrFormat, "{ }": api.ErrFormat, "{1,2}": api.ErrFormat,
		"{1 }": api.ErrFormat, "{ 1}": api.ErrFormat, "{1": api.ErrFormat, "{1}}": api.ErrFormat, "{01}": api.ErrFormat,
		"{2 1}": api.ErrFormat, "{2 2}": api.ErrFormat, "{-1}": api.ErrFormat, "{1024}": api.ErrRange,
		"{1024": api.ErrRange, "{01024}": api.ErrFormat, "{5 1024 01}": api.ErrRange, "{5 4 1024}": api.ErrFormat,
		"{99999999999999999999999}": api.ErrRange, "{1  2}": api.ErrFormat, "{0 1023}": api.OK,
	} {
		if r, e := Parse(s); e != want || e != api.OK && r != (Set{}) {
			t.Error(s, e)
		}
	}
}
