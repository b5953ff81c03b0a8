package bignat

import (
	"math/big"
	"math/rand"
	"strings"
	"testing"

	"palmette/api"
)

func toBig(a Nat) *big.Int {
	r := new(big.Int)
	for i := len(a.d) - 1; i >= 0; i-- {
		r.Lsh(r, 32).Or(r, big.NewInt(int64(a.d[i])))
	}
	return r
}

// random makes digits of all ones and zeros frequent, since carries go wrong there.
func random(r *rand.Rand) Nat {
	d := make([]uint32, r.Intn(9))
	for i := range d {
		d[i] = []uint32{r.Uint32(), ^uint32(0), 0, 1 << 31}[r.Intn(4)]
	}
	return trimmed(d)
}

// P2.1 to P2.5 against math/big.
func TestArithmetic(t *testing.T) {
	r := rand.New(rand.NewSource(1))
	for range 20000 {
		a, b := random(r), random(r)
		x, y := toBig(a), toBig(b)
		same := func(what string, got Nat, want *big.Int) {
			if toBig(got).Cmp(want) != 0 || got.String() != want.String() {
				t.Fatal(what, a, b, got, want)
			}
		}
		same("add", a.Add(b), new(big.Int).Add(x, y))
		same("mul", a.Mul(b), new(big.Int).Mul(x, y))
		same("sum", Sum(a, b, a), new(big.Int).Add(x, new(big.Int).Add(x, y)))
		same("gcd", a.GCD(b), new(big.Int).GCD(nil, nil, x, y))
		if d, e := a.Sub(b); x.Cmp(y) >= 0 {
			same("sub", d, new(big.Int).Sub(x, y))
		} else if e != api.ErrRange || !d.IsZero() {
			t.Fatal("sub", a, b)
		}
		q, m, e := a.DivMod(b)
		if b.IsZero() {
			if e != api.ErrArgument || !q.IsZero() || !m.IsZero() {
				t.Fatal("div by 0")
			}
		} else {
			p, o := new(big.Int).QuoRem(x, y, new(big.Int))
			same("div", q, p)
			same("mod", m, o)
		}
		if a.Cmp(b) != x.Cmp(y) || a.Equal(b) != (x.Cmp(y) == 0) || a.BitLen() != x.BitLen() || a.IsZero() != (x.Sign() == 0) {
			t.Fatal("cmp", a, b)
		}
		n := r.Intn(300)
		if a.Bit(n) != (x.Bit(n) == 1) || a.Bit(-1) {
			t.Fatal("bit", a, n)
		}
		if v, is := a.Uint64(); is != x.IsUint64() || is && v != x.Uint64() || !is && v != 0 {
			t.Fatal("uint64", a)
		}
		if p, e := Parse(a.String()); e != api.OK || !p.Equal(a) {
			t.Fatal("parse", a)
		}
	}
}

func TestPowers(t *testing.T) {
	for _, x := range []struct {
		a    uint64
		n    int
		want api.Errno
	}{{0, 0, 0}, {0, 7, 0}, {1, 1 << 60, 0}, {7, 31, 0}, {10, 19000, 0}, {2, 65535, 0}, {2, 65536, api.ErrRange}, {3, 41348, 0}, {3, 41349, api.ErrRange}, {5, -1, api.ErrRange}, {1, -1, api.ErrRange}, {2, 1 << 62, api.ErrRange}, {1 << 63, 1 << 40, api.ErrRange}} {
		p, e := FromUint64(x.a).Pow(x.n)
		if e != x.want || e != api.OK && !p.IsZero() {
			t.Error(x.a, x.n, e)
		}
		if e == api.OK && x.n < 1<<20 && toBig(p).Cmp(new(big.Int).Exp(new(big.Int).SetUint64(x.a), big.NewInt(int64(x.n)), nil)) != 0 {
			t.Error(x.a, x.n)
		}
	}
	for _, n := range []int{0, 1, 31, 32, 33, 64, 65535} {
		if p, e := PowerOfTwo(n); e != api.OK || p.BitLen() != n+1 || toBig(p).TrailingZeroBits() != uint(n) {
			t.Error(n)
		}
	}
	for _, n := range []int{-1, 65536, 1 << 40} {
		if p, e := PowerOfTwo(n); e != api.ErrRange || !p.IsZero() {
			t.Error(n)
		}
	}
}

func TestTexts(t *testing.T) {
	most := new(big.Int).Lsh(big.NewInt(1), MaxBits)
	if p, e := Parse(new(big.Int).Sub(most, big.NewInt(1)).String()); e != api.OK || p.BitLen() != MaxBits {
		t.Error("largest")
	}
	for s, want := range map[string]api.Errno{"": api.ErrFormat, "00": api.ErrFormat, "+1": api.ErrFormat, "-0": api.ErrFormat, "1a": api.ErrFormat, " 1": api.ErrFormat, "1_0": api.ErrFormat, most.String(): api.ErrRange, "1" + strings.Repeat("0", 1<<20): api.ErrRange, "1" + strings.Repeat("0", 1<<20) + "x": api.ErrFormat} {
		if p, e := Parse(s); e != want || !p.IsZero() {
			t.Error(len(s), e)
		}
	}
	if (Nat{}).String() != "0" || FromUint64(1_000_000_000).String() != "1000000000" || !Sum().IsZero() || (Nat{}).BitLen() != 0 {
		t.Error("String")
	}
}
