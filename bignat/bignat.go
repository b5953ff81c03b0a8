// Package bignat implements natural numbers of unlimited size (layer 2).
package bignat

import (
	"cmp"
	"math/bits"
	"strconv"

	"palmette/api"
)

// MaxBits limits the bit length of powers and of parsed numbers.
const MaxBits = 1 << 16

// Digits of decimal texts are converted in chunks that fit into one word.
const (
	chunkDigits = 9
	chunkBase   = 1_000_000_000
)

// Nat is a natural number; the zero value is 0.
type Nat struct {
	d []uint32 // base 2^32, least significant first, without leading zeros; never modified
}

func trimmed(d []uint32) Nat {
	n := len(d)
	for n > 0 && d[n-1] == 0 {
		n--
	}
	if n == 0 {
		return Nat{}
	}
	return Nat{d[:n:n]}
}

// FromUint64 returns n as a Nat.
func FromUint64(n uint64) Nat { return trimmed([]uint32{uint32(n), uint32(n >> 32)}) }

// PowerOfTwo returns 2 to the power of n.
func PowerOfTwo(n int) (Nat, api.Errno) {
	if n < 0 || n >= MaxBits {
		return Nat{}, api.ErrRange
	}
	d := make([]uint32, n/32+1)
	d[n/32] = 1 << (n % 32)
	return Nat{d}, api.OK
}

func (a Nat) digit(i int) uint32 {
	if i < len(a.d) {
		return a.d[i]
	}
	return 0
}

// combine computes a result digit by digit; step receives a carry and returns the next one.
func combine(a, b Nat, step func(x, y, carry uint32) (uint32, uint32)) Nat {
	n := max(len(a.d), len(b.d)) + 1
	d := make([]uint32, n)
	carry := uint32(0)
	for i := range n {
		d[i], carry = step(a.digit(i), b.digit(i), carry)
	}
	return trimmed(d)
}

// Add returns a + b.
func (a Nat) Add(b Nat) Nat { return combine(a, b, bits.Add32) }

// Sub returns a - b.
func (a Nat) Sub(b Nat) (Nat, api.Errno) {
	if a.Cmp(b) < 0 {
		return Nat{}, api.ErrRange
	}
	return combine(a, b, bits.Sub32), api.OK
}

// Mul returns a * b.
func (a Nat) Mul(b Nat) Nat {
	d := make([]uint32, len(a.d)+len(b.d))
	for i, x := range a.d {
		carry := uint64(0)
		for k, y := range b.d {
			carry += uint64(x)*uint64(y) + uint64(d[i+k])
			d[i+k] = uint32(carry)
			carry >>= 32
		}
		d[i+len(b.d)] = uint32(carry)
	}
	return trimmed(d)
}

// divSmall divides by a single nonzero digit.
func (a Nat) divSmall(by uint32) (Nat, uint32) {
	d := make([]uint32, len(a.d))
	rest := uint32(0)
	for i := len(a.d) - 1; i >= 0; i-- {
		d[i], rest = bits.Div32(rest, a.d[i], by)
	}
	return trimmed(d), rest
}

func (a Nat) shiftLeft(n int) []uint32 {
	d := make([]uint32, len(a.d)+1)
	for i, x := range a.d {
		wide := uint64(x) << n
		d[i] |= uint32(wide)
		d[i+1] = uint32(wide >> 32)
	}
	return d
}

func shiftRight(d []uint32, n int) Nat {
	r := make([]uint32, len(d))
	for i, x := range d {
		r[i] = x >> n
		if i+1 < len(d) {
			r[i] |= uint32(uint64(d[i+1]) << 32 >> n)
		}
	}
	return trimmed(r)
}

// DivMod returns the quotient and the remainder of a divided by b.
func (a Nat) DivMod(b Nat) (Nat, Nat, api.Errno) {
	switch {
	case b.IsZero():
		return Nat{}, Nat{}, api.ErrArgument
	case a.Cmp(b) < 0:
		return Nat{}, a.clone(), api.OK
	case len(b.d) == 1:
		q, r := a.divSmall(b.d[0])
		return q, FromUint64(uint64(r)), api.OK
	}
	// Schoolbook division needs a divisor whose top bit is set, so that estimated digits are almost right.
	shift := bits.LeadingZeros32(b.d[len(b.d)-1])
	u := a.shiftLeft(shift)
	v := b.shiftLeft(shift)[:len(b.d)]
	q := make([]uint32, len(u)-len(v))
	for i := len(q) - 1; i >= 0; i-- {
		q[i] = divideStep(u[i:i+len(v)+1], v)
	}
	return trimmed(q), shiftRight(u[:len(v)], shift), api.OK
}

// divideStep returns the next digit of a quotient and subtracts that multiple of v from u.
func divideStep(u, v []uint32) uint32 {
	n := len(v)
	top := uint64(u[n])<<32 | uint64(u[n-1])
	q, r := top/uint64(v[n-1]), top%uint64(v[n-1])
	for q>>32 != 0 || q*uint64(v[n-2]) > r<<32|uint64(u[n-2]) {
		q--
		r += uint64(v[n-1])
		if r>>32 != 0 {
			break
		}
	}
	if subtractMultiple(u, v, q) {
		q--
		addBack(u, v)
	}
	return uint32(q)
}

// subtractMultiple subtracts q times v from u and reports whether the result is negative.
func subtractMultiple(u, v []uint32, q uint64) bool {
	carry, borrow := uint64(0), uint32(0)
	for i := range u {
		if i < len(v) {
			carry += q * uint64(v[i])
		}
		u[i], borrow = bits.Sub32(u[i], uint32(carry), borrow)
		carry >>= 32
	}
	return borrow != 0
}

func addBack(u, v []uint32) {
	carry := uint32(0)
	for i := range v {
		u[i], carry = bits.Add32(u[i], v[i], carry)
	}
	u[len(v)] += carry
}

// Pow returns a to the power of n.
func (a Nat) Pow(n int) (Nat, api.Errno) {
	switch {
	case n < 0:
		return Nat{}, api.ErrRange
	case n == 0:
		return FromUint64(1), api.OK
	case a.BitLen() < 2:
		return a.clone(), api.OK
	case n >= MaxBits || (a.BitLen()-1)*n >= MaxBits:
		return Nat{}, api.ErrRange
	}
	r := FromUint64(1)
	for bit := bits.Len(uint(n)) - 1; bit >= 0; bit-- {
		r = r.Mul(r)
		if n>>bit&1 == 1 {
			r = r.Mul(a)
		}
	}
	if r.BitLen() > MaxBits {
		return Nat{}, api.ErrRange
	}
	return r, api.OK
}

// Cmp returns -1, 0 or 1 if a is less than, equal to, or greater than b.
func (a Nat) Cmp(b Nat) int {
	if c := cmp.Compare(len(a.d), len(b.d)); c != 0 {
		return c
	}
	for i := len(a.d) - 1; i >= 0; i-- {
		if c := cmp.Compare(a.d[i], b.d[i]); c != 0 {
			return c
		}
	}
	return 0
}

// Equal reports whether a and b are equal.
func (a Nat) Equal(b Nat) bool { return a.Cmp(b) == 0 }

// IsZero reports whether a is 0.
func (a Nat) IsZero() bool { return len(a.d) == 0 }

func (a Nat) clone() Nat { return Nat{append([]uint32(nil), a.d...)} }

// BitLen returns the number of binary digits of a; it is 0 for 0.
func (a Nat) BitLen() int {
	if a.IsZero() {
		return 0
	}
	return 32*(len(a.d)-1) + bits.Len32(a.d[len(a.d)-1])
}

// Bit reports whether bit n of a is 1.
func (a Nat) Bit(n int) bool { return n >= 0 && a.digit(n/32)>>(n%32)&1 == 1 }

// Uint64 returns a and true if a is less than 2^64.
func (a Nat) Uint64() (uint64, bool) {
	if len(a.d) > 2 {
		return 0, false
	}
	return uint64(a.digit(1))<<32 | uint64(a.digit(0)), true
}

// GCD returns the greatest common divisor of a and b.
func (a Nat) GCD(b Nat) Nat {
	for !b.IsZero() {
		_, r, _ := a.DivMod(b)
		a, b = b, r
	}
	return a.clone()
}

// String returns the decimal form of a.
func (a Nat) String() string {
	if a.IsZero() {
		return "0"
	}
	var chunks []uint32 // least significant first
	for rest := a; !rest.IsZero(); {
		var r uint32
		rest, r = rest.divSmall(chunkBase)
		chunks = append(chunks, r)
	}
	b := strconv.AppendUint(nil, uint64(chunks[len(chunks)-1]), 10)
	for i := len(chunks) - 2; i >= 0; i-- {
		part := strconv.AppendUint(nil, uint64(chunks[i])+chunkBase, 10)
		b = append(b, part[1:]...)
	}
	return string(b)
}

func isDecimal(s string) bool {
	if s == "" || s[0] == '0' && len(s) > 1 {
		return false
	}
	for i := range len(s) {
		if s[i] < '0' || s[i] > '9' {
			return false
		}
	}
	return true
}

// Parse returns the number with the decimal form s.
func Parse(s string) (Nat, api.Errno) {
	if !isDecimal(s) {
		return Nat{}, api.ErrFormat
	}
	if len(s) > MaxBits/3 {
		return Nat{}, api.ErrRange
	}
	var r Nat
	for len(s) > 0 {
		n := (len(s)-1)%chunkDigits + 1
		chunk, _ := strconv.ParseUint(s[:n], 10, 32)
		r = combine(r, FromUint64(chunk), func(x, y, carry uint32) (uint32, uint32) {
			wide := uint64(x)*chunkBase + uint64(y) + uint64(carry)
			return uint32(wide), uint32(wide >> 32)
		})
		s = s[n:]
	}
	if r.BitLen() > MaxBits {
		return Nat{}, api.ErrRange
	}
	return r, api.OK
}

// Sum returns the sum of all arguments.
func Sum(l ...Nat) Nat {
	var r Nat
	for _, a := range l {
		r = r.Add(a)
	}
	return r
}
