// Package bitset implements sets of integers from 0 to 1023 as comparable bit vectors (layer 1).
package bitset

import (
	"iter"
	"math/bits"
	"strconv"

	"palmette/api"
)

// MaxElements is the number of possible elements: 0 to MaxElements - 1.
const MaxElements = 1024

// Set is a set of integers from 0 to MaxElements - 1. It is comparable.
type Set [16]uint64

func inRange(n int) bool { return n >= 0 && n < MaxElements }

// Of returns the set of the given elements; arguments out of range are ignored.
func Of(l ...int) Set {
	var r Set
	for _, n := range l {
		if inRange(n) {
			r[n/64] |= 1 << (n % 64)
		}
	}
	return r
}

// Below returns the set of all elements less than n.
func Below(n int) Set {
	var r Set
	for i := range r {
		switch {
		case n >= 64*(i+1):
			r[i] = ^uint64(0)
		case n > 64*i:
			r[i] = 1<<(n-64*i) - 1
		}
	}
	return r
}

// Has reports whether n is an element.
func (r Set) Has(n int) bool { return inRange(n) && r[n/64]>>(n%64)&1 == 1 }

// With returns the set with n added.
func (r Set) With(n int) Set {
	if inRange(n) {
		r[n/64] |= 1 << (n % 64)
	}
	return r
}

// Without returns the set with n removed.
func (r Set) Without(n int) Set {
	if inRange(n) {
		r[n/64] &^= 1 << (n % 64)
	}
	return r
}

// Intersect returns the intersection of two sets.
func (r Set) Intersect(o Set) Set {
	for i := range r {
		r[i] &= o[i]
	}
	return r
}

// Union returns the union of two sets.
func (r Set) Union(o Set) Set {
	for i := range r {
		r[i] |= o[i]
	}
	return r
}

// Minus returns the elements of r that are not in o.
func (r Set) Minus(o Set) Set {
	for i := range r {
		r[i] &^= o[i]
	}
	return r
}

// SubsetOf reports whether every element of r is in o.
func (r Set) SubsetOf(o Set) bool { return r.Minus(o) == Set{} }

// IsEmpty reports whether the set has no elements.
func (r Set) IsEmpty() bool { return r == Set{} }

// Len returns the number of elements.
func (r Set) Len() int {
	n := 0
	for _, w := range r {
		n += bits.OnesCount64(w)
	}
	return n
}

// Min returns the smallest element.
func (r Set) Min() (int, bool) {
	for i, w := range r {
		if w != 0 {
			return 64*i + bits.TrailingZeros64(w), true
		}
	}
	return 0, false
}

// Max returns the largest element.
func (r Set) Max() (int, bool) {
	for i := len(r) - 1; i >= 0; i-- {
		if r[i] != 0 {
			return 64*i + bits.Len64(r[i]) - 1, true
		}
	}
	return 0, false
}

// Elements returns the elements in ascending order.
func (r Set) Elements() []int {
	l := make([]int, 0, r.Len())
	for n := range r.All() {
		l = append(l, n)
	}
	return l
}

// All iterates over the elements in ascending order.
func (r Set) All() iter.Seq[int] {
	return func(yield func(int) bool) {
		for i, w := range r {
			for ; w != 0; w &= w - 1 {
				if !yield(64*i + bits.TrailingZeros64(w)) {
					return
				}
			}
		}
	}
}

// Subsets iterates over all subsets in the order of sets.
func (r Set) Subsets() iter.Seq[Set] {
	return func(yield func(Set) bool) {
		for s, more := (Set{}), true; more; s, more = s.NextSubset(r) {
			if !yield(s) {
				return
			}
		}
	}
}

// NextSubset returns the least subset of within that is greater than r.
func (r Set) NextSubset(within Set) (Set, bool) {
	free := within.Minus(r)
	// A subset of within cannot agree with r at an element that within lacks, so it exceeds r above the largest one.
	if top, has := r.Minus(within).Max(); has {
		free = free.Minus(Below(top + 1))
	}
	n, has := free.Min()
	if !has {
		return Set{}, false
	}
	return r.Minus(Below(n)).With(n), true
}

// Compare returns -1, 0 or 1 according to the order of sets.
func (r Set) Compare(o Set) int {
	for i := len(r) - 1; i >= 0; i-- {
		if r[i] < o[i] {
			return -1
		}
		if r[i] > o[i] {
			return 1
		}
	}
	return 0
}

// CompareSlices compares slices of sets lexicographically.
func CompareSlices(a, b []Set) int {
	for i := range min(len(a), len(b)) {
		if c := a[i].Compare(b[i]); c != 0 {
			return c
		}
	}
	switch {
	case len(a) < len(b):
		return -1
	case len(a) > len(b):
		return 1
	}
	return 0
}

// String returns the string form of the set.
func (r Set) String() string {
	b := []byte{'{'}
	for n := range r.All() {
		if len(b) > 1 {
			b = append(b, ' ')
		}
		b = strconv.AppendInt(b, int64(n), 10)
	}
	return string(append(b, '}'))
}

// Parse returns the set with the given string form.
func Parse(s string) (Set, api.Errno) {
	if s == "" || s[0] != '{' {
		return Set{}, api.ErrFormat
	}
	if s == "{}" {
		return Set{}, api.OK
	}
	var r Set
	last := -1
	for at := 1; ; at++ {
		n, end, e := number(s, at)
		if e == api.OK && n <= last {
			e = api.ErrFormat
		}
		if e != api.OK {
			return Set{}, e
		}
		r, last, at = r.With(n), n, end
		if at == len(s)-1 && s[at] == '}' {
			return r, api.OK
		}
		if at == len(s) || s[at] != ' ' {
			return Set{}, api.ErrFormat
		}
	}
}

// number reads the element that starts at an index of s, and returns the index behind it.
func number(s string, at int) (int, int, api.Errno) {
	n, end := 0, at
	for end < len(s) && s[end] >= '0' && s[end] <= '9' {
		n = min(10*n+int(s[end]-'0'), MaxElements)
		end++
	}
	if end == at || s[at] == '0' && end > at+1 {
		return 0, end, api.ErrFormat
	}
	if n >= MaxElements {
		return 0, end, api.ErrRange
	}
	return n, end, api.OK
}
