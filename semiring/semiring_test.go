package semiring

import (
	"math/rand"
	"testing"

	"palmette/bignat"
)

// laws checks the laws of a semiring on values from a source.
func laws[T any](t *testing.T, r Semiring[T], value func() T) {
	for range 300 {
		a, b, c := value(), value(), value()
		for i, ok := range []bool{
			r.Same(r.Add(a, b), r.Add(b, a)), r.Same(r.Mul(a, b), r.Mul(b, a)),
			r.Same(r.Add(a, r.Add(b, c)), r.Add(r.Add(a, b), c)), r.Same(r.Mul(a, r.Mul(b, c)), r.Mul(r.Mul(a, b), c)),
			r.Same(r.Add(a, r.Zero()), a), r.Same(r.Mul(a, r.One()), a), r.Same(r.Mul(a, r.Zero()), r.Zero()),
			r.Same(r.Mul(a, r.Add(b, c)), r.Add(r.Mul(a, b), r.Mul(a, c))),
			r.Same(Sum(r, []T{a, b, c}), Sum(r, []T{c, a, b})), r.Same(Product(r, []T{a, b, c}), r.Mul(r.Mul(c, b), a)),
			r.Same(Sum(r, nil), r.Zero()), r.Same(Product(r, nil), r.One()),
			r.Same(Multiple(r, a, 3), Sum(r, []T{a, a, a})), r.Same(Power(r, a, 3), Product(r, []T{a, a, a})),
			r.Same(Multiple(r, a, -1), r.Zero()), r.Same(Power(r, a, -1), r.One()),
		} {
			if !ok {
				t.Fatal(i, a, b, c)
			}
		}
	}
}

// P39.1 to P39.3 and P39.5.
func TestLaws(t *testing.T) {
	r := rand.New(rand.NewSource(1))
	boolean := func() bool { return r.Intn(2) == 0 }
	natural := func() bignat.Nat { return bignat.FromUint64(uint64(r.Intn(4)) << (30 * r.Intn(3))) }
	cost := func() Cost { return Cost{r.Intn(4) > 0, r.Intn(9) - 4} }
	laws(t, Boolean{}, boolean)
	laws(t, Natural{}, natural)
	laws(t, MinPlus{}, cost)
	laws(t, MaxPlus{}, cost)
	laws(t, Pair[bool, Cost]{Boolean{}, MinPlus{}}, func() PairValue[bool, Cost] { return PairValue[bool, Cost]{boolean(), cost()} })
	for range 100 {
		a, b := natural(), natural()
		x, y := !a.IsZero(), !b.IsZero()
		if (Natural{}).Add(a, b).IsZero() == (Boolean{}).Add(x, y) || (Natural{}).Mul(a, b).IsZero() == (Boolean{}).Mul(x, y) {
			t.Fatal(a, b)
		}
		c, d := cost(), cost()
		minus := func(c Cost) Cost { return Cost{c.Finite, -c.Value} }
		if !(MaxPlus{}).Same(minus((MinPlus{}).Add(c, d)), (MaxPlus{}).Add(minus(c), minus(d))) {
			t.Fatal(c, d)
		}
	}
}

func TestValues(t *testing.T) {
	three, five, none, junk := Cost{true, 3}, Cost{true, 5}, Cost{}, Cost{false, 9}
	min, max := MinPlus{}, MaxPlus{}
	for i, x := range []struct{ got, want Cost }{
		{min.Zero(), none}, {min.One(), Cost{true, 0}}, {min.Add(three, five), three}, {min.Add(five, three), three}, {min.Mul(three, five), Cost{true, 8}}, {min.Add(junk, five), five}, {min.Add(five, junk), five}, {min.Mul(junk, five), none}, {min.Mul(five, junk), none}, {min.Add(junk, junk), none}, {min.Mul(junk, junk), none},
		{max.Zero(), none}, {max.One(), Cost{true, 0}}, {max.Add(three, five), five}, {max.Add(five, three), five}, {max.Add(junk, three), three}, {max.Add(junk, none), none}, {max.Mul(three, junk), none}, {max.Mul(three, five), Cost{true, 8}},
	} {
		if x.got != x.want {
			t.Error(i, x.got)
		}
	}
	if !min.Same(junk, none) || min.Same(none, Cost{true, 0}) || !max.Same(none, junk) || max.Same(three, five) || (Boolean{}).Zero() || !(Boolean{}).One() || (Natural{}).One().String() != "1" {
		t.Error("Same")
	}
}

// P39.3 and P39.4: nil and clamping.
func TestNilAndClamping(t *testing.T) {
	half := Pair[bool, Cost]{S: MinPlus{}}
	a, b := PairValue[bool, Cost]{true, Cost{true, 2}}, PairValue[bool, Cost]{false, Cost{true, 2}}
	if half.One() != (PairValue[bool, Cost]{false, Cost{true, 0}}) || half.Add(a, a) != b || half.Mul(a, a) != (PairValue[bool, Cost]{false, Cost{true, 4}}) || !half.Same(a, b) || half.Zero() != (PairValue[bool, Cost]{}) {
		t.Error("nil component")
	}
	other := Pair[bool, Cost]{R: Boolean{}}
	if other.One() != (PairValue[bool, Cost]{A: true}) || other.Same(a, b) || !other.Same(a, PairValue[bool, Cost]{A: true}) {
		t.Error("nil component")
	}
	one := bignat.FromUint64(1)
	if Sum[bool](nil, []bool{true}) || Product[bool](nil, nil) || Multiple[bool](nil, true, 2) || Power[bool](nil, true, 2) {
		t.Error("nil")
	}
	if n := Multiple[bignat.Nat](Natural{}, one, 1<<40); n.String() != "65536" {
		t.Error(n)
	}
	if n := Multiple[bignat.Nat](Natural{}, one, 65535); n.String() != "65535" {
		t.Error(n)
	}
	if n := Power[bignat.Nat](Natural{}, bignat.FromUint64(2), 1<<40); n.BitLen() != 257 {
		t.Error(n)
	}
}
