package monoid

import (
	"testing"

	"palmette/api"
)

func all() []Monoid {
	l := []Monoid{{All, 0, 0}, {Any, 0, 0}}
	for n := range MaxExactly + 1 {
		l = append(l, Monoid{Exactly, n, 0})
	}
	for m := 1; m <= MaxModulus; m++ {
		l = append(l, Monoid{Modulo, 0, m}, Monoid{Modulo, m - 1, m}, Monoid{Modulo, m / 2, m})
	}
	return l
}

func holds(m Monoid, yes, no int) bool {
	switch m.Kind {
	case All:
		return no == 0
	case Any:
		return yes > 0
	case Exactly:
		return yes == m.N
	}
	return yes%m.M == m.N
}

// P20.2 to P20.4: sums over elements in any order.
func TestSums(t *testing.T) {
	for _, m := range all() {
		if m.Check() != api.OK {
			t.Fatal(m)
		}
		for yes := range 70 {
			for no := range 3 {
				l := make([]int, no)
				for range yes {
					l = append(l, m.Value(true))
				}
				v := m.Sum(l)
				if m.Accepts(v) != holds(m, yes, no) || v < 0 || v >= m.Size() {
					t.Fatal(m, yes, no, v)
				}
				if w := m.Add(m.Times(m.Value(true), yes), m.Times(m.Value(false), no)); w != v {
					t.Fatal(m, w, v)
				}
			}
		}
		for a := range m.Size() {
			reachesYes, reachesNo := false, false
			for b := range m.Size() {
				c := m.Add(a, b)
				reachesYes, reachesNo = reachesYes || m.Accepts(c), reachesNo || !m.Accepts(c)
				if c != m.Add(b, a) || m.Dead(a) && !m.Dead(c) || m.Universal(a) && !m.Universal(c) {
					t.Fatal(m, a, b)
				}
			}
			if m.Add(a, m.Identity()) != a || m.Dead(a) == reachesYes || m.Universal(a) == reachesNo {
				t.Fatal(m, a)
			}
		}
	}
}

func TestArguments(t *testing.T) {
	m := Monoid{Exactly, 1, 0}
	if m.Add(m.Value(true), m.Value(true)) != 2 || !m.Dead(2) || m.Add(99, 0) != 2 || m.Add(-5, -5) != 0 || m.Times(1, -3) != 0 || m.Times(1, 1<<62) != 2 || m.Sum(nil) != 0 || m.Sum([]int{-1, 7}) != 2 {
		t.Error(m)
	}
	three := Monoid{Modulo, 1, 3}
	if three.Times(1, 4) != 1 || !three.Accepts(1) || three.Times(2, 1<<62) != 2*(1<<62%3)%3 || three.Times(50, 2) != 1 {
		t.Error(three)
	}
	if (Monoid{All, 0, 0}).Times(0, 0) != 1 || (Monoid{Modulo, 0, 1}).Value(true) != 0 || !(Monoid{Modulo, 0, 1}).Universal(0) {
		t.Error("identity")
	}
	for _, a := range []int{-1, 3} {
		if m.Accepts(a) || m.Dead(a) || m.Universal(a) || m.Text(a) != "" {
			t.Error(a)
		}
	}
	for i, want := range []string{"all 1", "some 1", "just 1", "rest 1"} {
		if s := []Monoid{{All, 0, 0}, {Any, 0, 0}, m, three}[i].Text(1); s != want {
			t.Error(s)
		}
	}
}

// P20.1.
func TestInvalid(t *testing.T) {
	for m, want := range map[Monoid]api.Errno{{-1, 0, 0}: api.ErrKind, {4, -1, 0}: api.ErrKind, {All, 1, 0}: api.ErrRange, {Any, 0, 1}: api.ErrRange, {Exactly, -1, 0}: api.ErrRange, {Exactly, 63, 0}: api.ErrRange, {Exactly, 1, 1}: api.ErrRange, {Modulo, 0, 0}: api.ErrRange, {Modulo, 0, 65}: api.ErrRange, {Modulo, 3, 3}: api.ErrRange, {Modulo, -1, 3}: api.ErrRange} {
		if m.Check() != want || m.Size() != 0 || m.Identity() != 0 || m.Value(true) != 0 || m.Add(1, 1) != 0 || m.Sum([]int{1}) != 0 || m.Times(1, 1) != 0 || m.Accepts(0) || m.Dead(0) || m.Universal(0) || m.Text(0) != "" {
			t.Error(m)
		}
	}
}
