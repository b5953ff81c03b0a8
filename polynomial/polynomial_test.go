package polynomial

import (
	"math/rand"
	"strings"
	"testing"

	"palmette/api"
	"palmette/bignat"
)

func nat(n int) bignat.Nat { return bignat.FromUint64(uint64(n)) }

func random(r *rand.Rand) Polynomial {
	p := Zero()
	for range r.Intn(5) {
		m, _ := Monomial(nat(r.Intn(9)), r.Intn(4), r.Intn(4))
		p = p.Add(m)
	}
	return p
}

// P40.2 to P40.7.
func TestAlgebra(t *testing.T) {
	r := rand.New(rand.NewSource(1))
	for range 500 {
		p, q, s := random(r), random(r), random(r)
		x, y := nat(r.Intn(5)), nat(r.Intn(5))
		sum, product := p.Add(q), p.Mul(q)
		if !sum.Eval(x, y).Equal(p.Eval(x, y).Add(q.Eval(x, y))) || !product.Eval(x, y).Equal(p.Eval(x, y).Mul(q.Eval(x, y))) {
			t.Fatal(p.Text(), q.Text())
		}
		if !p.Mul(q.Add(s)).Equal(product.Add(p.Mul(s))) || !product.Equal(q.Mul(p)) || !p.Mul(One()).Equal(p) || !p.Mul(Zero()).Equal(Zero()) || !p.Add(Zero()).Equal(p) {
			t.Fatal("laws")
		}
		var ring Ring
		if !ring.Same(ring.Add(p, q), sum) || !ring.Same(ring.Mul(p, q), product) || !ring.Same(ring.One(), One()) || !ring.Same(ring.Zero(), Zero()) {
			t.Fatal("Ring")
		}
		if again, e := Parse(p.Text()); e != api.OK || !again.Equal(p) {
			t.Fatal(p.Text())
		}
		if !product.DerivativeX().Equal(p.DerivativeX().Mul(q).Add(p.Mul(q.DerivativeX()))) {
			t.Fatal("DerivativeX")
		}
		terms := 0
		a, b := p.Degree()
		for k := 0; k <= b; k++ {
			l := p.CoefficientsOfY(k)
			if len(l) > 0 && l[len(l)-1].IsZero() || len(l) > a+1 {
				t.Fatal(l)
			}
			for i, n := range l {
				if !n.Equal(p.Coefficient(i, k)) {
					t.Fatal(i, k)
				}
				if !n.IsZero() {
					terms++
				}
			}
		}
		if terms != p.NumTerms() {
			t.Fatal(terms)
		}
	}
}

func TestForms(t *testing.T) {
	p := One().Add(X()).Mul(One().Add(Y()))
	if p.Text() != "1 + 1 y^1 + 1 x^1 + 1 x^1 y^1" || Zero().Text() != "0" || (Polynomial{}).NumTerms() != 0 {
		t.Error(p.Text())
	}
	if a, b := p.Degree(); a != 1 || b != 1 {
		t.Error(a, b)
	}
	if a, b := Zero().Degree(); a != -1 || b != -1 {
		t.Error(a, b)
	}
	m, e := Monomial(nat(3), 2048, 1)
	n, f := Monomial(nat(2), 0, 2048)
	if e != api.OK || f != api.OK || !m.Mul(X()).Equal(Zero()) || !n.Mul(Y()).Equal(Zero()) || m.Mul(One()).Text() != "3 x^2048 y^1" || m.Mul(X()).Text() != "0" {
		t.Error("limits")
	}
	for _, x := range [][2]int{{-1, 0}, {0, -1}, {2049, 0}, {0, 2049}} {
		if p, e := Monomial(nat(1), x[0], x[1]); e != api.ErrRange || !p.Equal(Zero()) {
			t.Error(x, e)
		}
	}
	if p, e := Monomial(nat(0), 1, 1); e != api.OK || p.NumTerms() != 0 {
		t.Error(p.Text())
	}
	if v := One().Add(X()).Eval(nat(0), nat(0)); !v.Equal(nat(1)) {
		t.Error(v)
	}
	big, _ := Monomial(nat(1), 2048, 2048)
	if v := big.Eval(nat(4096), nat(4096)); v.BitLen() != 2*2048*12+1 {
		t.Error(v.BitLen())
	}
	if len(p.CoefficientsOfY(5)) != 0 || len(p.CoefficientsOfY(-1)) != 0 || !p.Coefficient(-1, 0).IsZero() {
		t.Error("absent")
	}
}

// P40.5.
func TestParse(t *testing.T) {
	for s, want := range map[string]api.Errno{
		"": api.ErrFormat, "0": api.OK, "00": api.ErrFormat, "0 x^1": api.ErrFormat, "1 + 0": api.ErrFormat, "1 + ": api.ErrFormat, "1 +1 x^1": api.ErrFormat, "x^1": api.ErrFormat, "1 x": api.ErrFormat, "1 x^": api.ErrFormat, "1 x^0": api.ErrFormat, "1 x^01": api.ErrFormat, "01 x^1": api.ErrFormat, "1  x^1": api.ErrFormat, "1 y^1 x^1": api.ErrFormat, "1 x^1 y^1 ": api.ErrFormat, "1 x^1 + 1": api.ErrFormat, "1 x^1 + 1 x^1": api.ErrFormat, "1 x^1 + 1 y^1": api.ErrFormat, "1 y^1 + 1 x^1": api.OK, "-1": api.ErrFormat, "1 x^2048 y^2048": api.OK, "1 x^2049": api.ErrRange, "1 y^999999999": api.ErrRange, "1 y^1000000000": api.ErrFormat, "1 x^2049 + 1": api.ErrFormat, "1" + strings.Repeat("0", 20000): api.ErrRange, strings.Repeat("9", 65537): api.ErrLong, "1 z^1": api.ErrFormat, " 1": api.ErrFormat, "1 x^-1": api.ErrFormat,
	} {
		p, e := Parse(s)
		if e != want || e != api.OK && p.NumTerms() != 0 || e == api.OK && p.Text() != s {
			t.Errorf("%.30q %d", s, e)
		}
	}
}
