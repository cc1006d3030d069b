package poly

import (
	"math"
	"math/big"
	"math/bits"
	"slices"
	"strconv"
	"strings"
	"testing"

	"quantum/api"
)

// dice yields a row of numbers that looks random but is always the same.
type dice uint64

func newDice() *dice {
	d := dice(88172645463325252)
	return &d
}

func (d *dice) next() uint64 {
	*d ^= *d << 13
	*d ^= *d >> 7
	*d ^= *d << 17
	return uint64(*d)
}

func (d *dice) below(n int) int { return int(d.next() % uint64(n)) }

// poly answers polynomials of all degrees, from -1 on.
func (d *dice) poly() uint64 { return d.next() >> d.below(65) }

// ofDegree answers polynomials of one degree.
func (d *dice) ofDegree(n int) uint64 { return d.next()>>(63-n) | 1<<n }

// modulus answers polynomials that are not 0.
func (d *dice) modulus() uint64 { return d.ofDegree(d.below(64)) }

// some are polynomials at the limits: the least, the greatest ones, and those around every power of x.
func some() []uint64 {
	l := []uint64{0, 1, 2, 3, 5, 6, 7, 1<<64 - 1, 1<<64 - 2, 1<<63 - 1}
	for i := range 64 {
		l = append(l, 1<<i, 1<<i|1, 1<<i-1)
	}
	slices.Sort(l)
	return slices.Compact(l)
}

// degree, product, divide and power calculate without a limit, coefficient by coefficient.

func long(p uint64) *big.Int { return new(big.Int).SetUint64(p) }

func degree(p *big.Int) int {
	for i := p.BitLen(); i > 0; i-- {
		if p.Bit(i) == 1 {
			return i
		}
	}
	return int(p.Bit(0)) - 1
}

func product(a, b *big.Int) *big.Int {
	sum := new(big.Int)
	for i := range a.BitLen() {
		for k := range b.BitLen() {
			sum.SetBit(sum, i+k, sum.Bit(i+k)^a.Bit(i)&b.Bit(k))
		}
	}
	return sum
}

func divide(a, b *big.Int) (*big.Int, *big.Int) {
	q, r := new(big.Int), new(big.Int).Set(a)
	for n := degree(r) - degree(b); n >= 0; n = degree(r) - degree(b) {
		q.SetBit(q, n, 1)
		r.Xor(r, new(big.Int).Lsh(b, uint(n)))
	}
	return q, r
}

func remainder(a, b *big.Int) uint64 {
	_, r := divide(a, b)
	return r.Uint64()
}

// divides reports whether b divides a, for a b that is not 0.
func divides(b, a uint64) bool { return remainder(long(a), long(b)) == 0 }

func TestConstants(t *testing.T) {
	if MaxDegree != 63 || MaxOrder != 20 || MaxText != 400 || ErrText != 30 {
		t.Error(MaxDegree, MaxOrder, MaxText, ErrText)
	}
}

// The chapter's examples.

func TestExamples(t *testing.T) {
	if p, e := Mul(3, 3); p != 5 || e != api.OK {
		t.Error(p, e)
	}
	if q, r, e := Div(19, 5); q != 5 || r != 2 || e != api.OK {
		t.Error(q, r, e)
	}
	if p := Gcd(5, 9); p != 3 {
		t.Error(p)
	}
	for _, c := range []struct {
		m uint64
		n int
	}{{19, 15}, {5, 2}, {3, 1}} {
		if n, e := Order(c.m); n != c.n || e != api.OK {
			t.Error(c.m, n, e)
		}
	}
	if !Irreducible(19) || Irreducible(5) {
		t.Error(Irreducible(19), Irreducible(5))
	}
	if s := Text(19); s != "x^4+x+1" {
		t.Error(s)
	}
	for _, c := range [][2]uint64{{6, 6}, {1, 8}} {
		if p, e := Reverse(c[0], 4); p != c[1] || e != api.OK {
			t.Error(c, p, e)
		}
	}
}

// P3.1: degrees, products, quotients and divisors.

func TestDegree(t *testing.T) {
	for _, c := range []struct {
		p uint64
		n int
	}{{0, -1}, {1, 0}, {2, 1}, {3, 1}, {4, 2}, {19, 4}, {1 << 63, 63}, {1<<63 - 1, 62}, {1<<64 - 1, 63}} {
		if n := Degree(c.p); n != c.n {
			t.Errorf("Degree(%d) = %d, not %d", c.p, n, c.n)
		}
	}
	for _, p := range some() {
		if n := Degree(p); n != degree(long(p)) {
			t.Errorf("Degree(%d) = %d, not %d", p, n, degree(long(p)))
		}
	}
}

// The terms of a polynomial can be left, and gone through again.
func TestTerms(t *testing.T) {
	l := terms(1<<63 | 19)
	for range 2 {
		for i := range l {
			if i != 63 {
				t.Errorf("the first term is x^%d", i)
			}
			break
		}
		if got := slices.Collect(l); !slices.Equal(got, []int{63, 4, 1, 0}) {
			t.Error(got)
		}
	}
	for i := range terms(0) {
		t.Errorf("0 has the term x^%d", i)
	}
}

func TestMul(t *testing.T) {
	for _, c := range []struct {
		a, b, p uint64
		e       api.Errno
	}{
		{0, 0, 0, api.OK},
		{0, 1<<64 - 1, 0, api.OK},
		{1<<64 - 1, 0, 0, api.OK},
		{1, 1<<64 - 1, 1<<64 - 1, api.OK},
		{1 << 63, 1, 1 << 63, api.OK},
		{2, 1 << 62, 1 << 63, api.OK},
		{2, 1<<63 - 1, 1<<64 - 2, api.OK},
		{3, 1<<63 - 1, 1<<63 | 1, api.OK},
		{1 << 31, 1 << 32, 1 << 63, api.OK},
		{2, 1 << 63, 0, api.ErrLong},
		{1 << 63, 3, 0, api.ErrLong},
		{1 << 32, 1 << 32, 0, api.ErrLong},
		{1<<64 - 1, 1<<64 - 1, 0, api.ErrLong},
	} {
		if p, e := Mul(c.a, c.b); p != c.p || e != c.e {
			t.Errorf("Mul(%d, %d) = %d %d, not %d %d", c.a, c.b, p, e, c.p, c.e)
		}
	}
}

func TestMulByDefinition(t *testing.T) {
	check := func(a, b uint64) {
		want, e := product(long(a), long(b)), api.OK
		if degree(want) > 63 {
			want, e = new(big.Int), api.ErrLong
		}
		if p, f := Mul(a, b); p != want.Uint64() || f != e {
			t.Fatalf("Mul(%d, %d) = %d %d, not %v %d", a, b, p, f, want, e)
		}
	}
	for a := range uint64(40) {
		for b := range uint64(40) {
			check(a, b)
		}
	}
	for _, a := range some() {
		for _, b := range []uint64{0, 1, 2, 3, 1 << 31, 1<<32 - 1, 1 << 32, 1 << 62, 1 << 63, 1<<64 - 1} {
			check(a, b)
			check(b, a)
		}
	}
	d := newDice()
	for range 500 {
		check(d.poly(), d.poly())
	}
}

func TestDiv(t *testing.T) {
	for _, c := range []struct {
		a, b, q, r uint64
		e          api.Errno
	}{
		{0, 1, 0, 0, api.OK},
		{0, 1 << 63, 0, 0, api.OK},
		{1, 1, 1, 0, api.OK},
		{1, 2, 0, 1, api.OK},
		{7, 7, 1, 0, api.OK},
		{6, 7, 1, 1, api.OK},
		{3, 7, 0, 3, api.OK},
		{1<<64 - 1, 1, 1<<64 - 1, 0, api.OK},
		{1<<64 - 1, 2, 1<<63 - 1, 1, api.OK},
		{1<<64 - 1, 1 << 63, 1, 1<<63 - 1, api.OK},
		{1<<63 - 1, 1 << 63, 0, 1<<63 - 1, api.OK},
		{1<<63 | 1, 3, 1<<63 - 1, 0, api.OK},
		{0, 0, 0, 0, api.ErrArg},
		{1, 0, 0, 0, api.ErrArg},
		{1<<64 - 1, 0, 0, 0, api.ErrArg},
	} {
		if q, r, e := Div(c.a, c.b); q != c.q || r != c.r || e != c.e {
			t.Errorf("Div(%d, %d) = %d %d %d, not %d %d %d", c.a, c.b, q, r, e, c.q, c.r, c.e)
		}
	}
}

func TestDivByDefinition(t *testing.T) {
	d := newDice()
	for range 5000 {
		a, b := d.poly(), d.modulus()
		wq, wr := divide(long(a), long(b))
		if q, r, e := Div(a, b); q != wq.Uint64() || r != wr.Uint64() || e != api.OK {
			t.Fatalf("Div(%d, %d) = %d %d %d, not %v %v", a, b, q, r, e, wq, wr)
		}
	}
}

func TestGcd(t *testing.T) {
	for _, c := range []struct{ a, b, p uint64 }{
		{0, 0, 0}, {0, 1, 1}, {1, 0, 1}, {0, 2, 2}, {19, 0, 19}, {0, 1<<64 - 1, 1<<64 - 1},
		{1, 1<<64 - 1, 1}, {2, 3, 1}, {6, 2, 2}, {6, 6, 6}, {4, 6, 2}, {1 << 63, 1 << 62, 1 << 62}, {1 << 63, 1<<63 | 1, 1}, {19, 5, 1},
	} {
		if p := Gcd(c.a, c.b); p != c.p {
			t.Errorf("Gcd(%d, %d) = %d, not %d", c.a, c.b, p, c.p)
		}
	}
}

// The greatest common divisor of two small polynomials is the last number that divides both.
func TestGcdByDefinition(t *testing.T) {
	const n = 64
	var divisor [n][n]bool // divisor[b][a]: b divides a
	for b := uint64(1); b < n; b++ {
		for a := range uint64(n) {
			divisor[b][a] = divides(b, a)
		}
	}
	for a := range n {
		for b := range n {
			want := 0
			for d := 1; d < n && a+b > 0; d++ {
				if divisor[d][a] && divisor[d][b] {
					want = d
				}
			}
			if p := Gcd(uint64(a), uint64(b)); p != uint64(want) {
				t.Fatalf("Gcd(%d, %d) = %d, not %d", a, b, p, want)
			}
		}
	}
}

// A common factor of long polynomials is found, whichever of them comes first.
func TestGcdOfLongPolynomials(t *testing.T) {
	d := newDice()
	for range 2000 {
		common, a, b := d.ofDegree(20), d.next()>>22, d.next()>>22
		p, _ := Mul(common, a)
		q, _ := Mul(common, b)
		g := Gcd(p, q)
		if g != Gcd(q, p) || !divides(common, g) || !divides(g, p) || !divides(g, q) {
			t.Fatalf("Gcd(%d, %d) = %d, with the common factor %d", p, q, g, common)
		}
		rest, _, _ := Div(g, common)
		if rest != Gcd(a, b) {
			t.Fatalf("Gcd(%d, %d) = %d: %d is left of it, not %d", p, q, g, rest, Gcd(a, b))
		}
	}
}

// P3.2: products and powers modulo a polynomial.

func TestMulMod(t *testing.T) {
	for _, c := range []struct {
		a, b, m, p uint64
		e          api.Errno
	}{
		{0, 0, 1, 0, api.OK},
		{1, 1, 1, 0, api.OK},
		{1<<64 - 1, 1<<64 - 1, 1, 0, api.OK},
		{1, 1, 2, 1, api.OK},
		{2, 7, 2, 0, api.OK},
		{3, 3, 7, 2, api.OK},
		{8, 8, 19, 12, api.OK},
		{0, 1<<64 - 1, 1 << 63, 0, api.OK},
		{2, 1 << 62, 1 << 63, 0, api.OK},
		{2, 1 << 62, 1<<63 | 1, 1, api.OK},
		{1 << 63, 1 << 63, 1<<63 | 3, 5, api.OK},
		{1, 1<<64 - 1, 1 << 63, 1<<63 - 1, api.OK},
		{0, 0, 0, 0, api.ErrArg},
		{5, 7, 0, 0, api.ErrArg},
	} {
		if p, e := MulMod(c.a, c.b, c.m); p != c.p || e != c.e {
			t.Errorf("MulMod(%d, %d, %d) = %d %d, not %d %d", c.a, c.b, c.m, p, e, c.p, c.e)
		}
	}
}

func TestMulModByDefinition(t *testing.T) {
	check := func(a, b, m uint64) {
		want := remainder(product(long(a), long(b)), long(m))
		if p, e := MulMod(a, b, m); p != want || e != api.OK {
			t.Fatalf("MulMod(%d, %d, %d) = %d %d, not %d", a, b, m, p, e, want)
		}
	}
	for a := range uint64(16) {
		for b := range uint64(16) {
			for m := uint64(1); m < 32; m++ {
				check(a, b, m)
			}
		}
	}
	d := newDice()
	for range 500 {
		check(d.poly(), d.poly(), d.modulus())
		check(d.next(), d.next(), d.ofDegree(63))
	}
}

func TestPower(t *testing.T) {
	for _, c := range []struct {
		n    int
		m, p uint64
		e    api.Errno
	}{
		{0, 1, 0, api.OK},
		{1, 1, 0, api.OK},
		{math.MaxInt, 1, 0, api.OK},
		{0, 2, 1, api.OK},
		{1, 2, 0, api.OK},
		{5, 2, 0, api.OK},
		{0, 3, 1, api.OK},
		{math.MaxInt, 3, 1, api.OK},
		{1, 19, 2, api.OK},
		{3, 19, 8, api.OK},
		{4, 19, 3, api.OK},
		{14, 19, 9, api.OK},
		{15, 19, 1, api.OK},
		{math.MaxInt, 19, 11, api.OK}, // 2^63 - 1 is 7 above a multiple of 15, and x^7 is x^3 + x + 1
		{62, 1 << 63, 1 << 62, api.OK},
		{63, 1 << 63, 0, api.OK},
		{63, 1<<63 | 3, 3, api.OK},
		{126, 1<<63 | 3, 5, api.OK},
		{-1, 19, 0, api.ErrArg},
		{math.MinInt, 19, 0, api.ErrArg},
		{0, 0, 0, api.ErrArg},
		{5, 0, 0, api.ErrArg},
		{-1, 0, 0, api.ErrArg},
	} {
		if p, e := Power(c.n, c.m); p != c.p || e != c.e {
			t.Errorf("Power(%d, %d) = %d %d, not %d %d", c.n, c.m, p, e, c.p, c.e)
		}
	}
}

// Each power is x times the one before it.
func TestPowerByDefinition(t *testing.T) {
	d := newDice()
	l := append(some()[1:], 0x104c11db7)
	for range 50 {
		l = append(l, d.modulus())
	}
	for _, m := range l {
		want := remainder(long(1), long(m))
		for n := range 150 {
			if p, e := Power(n, m); p != want || e != api.OK {
				t.Fatalf("Power(%d, %d) = %d %d, not %d", n, m, p, e, want)
			}
			want = remainder(new(big.Int).Lsh(long(want), 1), long(m))
		}
	}
}

func TestPowersAddUp(t *testing.T) {
	d := newDice()
	for range 500 {
		m := d.modulus()
		a, b := int(d.next()>>2), int(d.next()>>2)>>d.below(62)
		p, _ := Power(a, m)
		q, _ := Power(b, m)
		want := remainder(product(long(p), long(q)), long(m))
		if sum, e := Power(a+b, m); sum != want || e != api.OK {
			t.Fatalf("Power(%d, %d) = %d %d, not %d", a+b, m, sum, e, want)
		}
	}
}

// P3.3: orders, and irreducible polynomials.

func TestOrder(t *testing.T) {
	for _, c := range []struct {
		m uint64
		n int
		e api.Errno
	}{
		{3, 1, api.OK},
		{7, 3, api.OK},
		{9, 3, api.OK},
		{25, 15, api.OK},
		{31, 5, api.OK},
		{0x11b, 51, api.OK},
		{0x11d, 255, api.OK},
		{1<<20 | 1, 20, api.OK},
		{1<<19 | 1<<5 | 1<<2 | 1<<1 | 1, 1<<19 - 1, api.OK},
		{1<<20 | 1<<3 | 1, 1<<20 - 1, api.OK},
		{1<<21 - 1, 21, api.OK},

		{0, 0, api.ErrArg},
		{1, 0, api.ErrArg},
		{1 << 21, 0, api.ErrArg},
		{1<<21 | 1, 0, api.ErrArg},
		{1<<21 | 1<<2 | 1, 0, api.ErrArg},
		{1<<63 | 1, 0, api.ErrArg},
		{1<<64 - 1, 0, api.ErrArg},
		{1 << 63, 0, api.ErrArg},

		{2, 0, api.ErrNone},
		{4, 0, api.ErrNone},
		{6, 0, api.ErrNone},
		{38, 0, api.ErrNone},
		{1 << 20, 0, api.ErrNone},
		{1<<21 - 2, 0, api.ErrNone},
	} {
		if n, e := Order(c.m); n != c.n || e != c.e {
			t.Errorf("Order(%d) = %d %d, not %d %d", c.m, n, e, c.n, c.e)
		}
	}
}

// If a power of x has not been 1 after as many steps as there are remainders, no power is.
func TestOrderByDefinition(t *testing.T) {
	for m := uint64(2); m < 256; m++ {
		want, e := 0, api.ErrNone
		p := uint64(1)
		for n := 1; n <= 256 && want == 0; n++ {
			p = remainder(long(p<<1), long(m))
			if p == 1 {
				want, e = n, api.OK
			}
		}
		if n, f := Order(m); n != want || f != e {
			t.Errorf("Order(%d) = %d %d, not %d %d", m, n, f, want, e)
		}
	}
}

func TestIrreducible(t *testing.T) {
	for _, c := range []struct {
		p  uint64
		is bool
	}{
		{0, false},
		{1, false},
		{2, true},
		{3, true},
		{4, false},
		{5, false},
		{6, false},
		{7, true},
		{21, false}, // (x^2 + x + 1)^2
		{0x11b, true},
		{0x104c11db7, true},
		{1<<31 | 1<<3 | 1, true},
		{1<<61 | 1<<5 | 1<<2 | 1<<1 | 1, true},
		{1<<63 | 1<<1 | 1, true},
		{1 << 63, false},
		{1<<63 | 1, false},
		{1<<64 - 1, false},
		{1<<63 - 1, false},
	} {
		if is := Irreducible(c.p); is != c.is {
			t.Errorf("Irreducible(%d) = %v, not %v", c.p, is, c.is)
		}
	}
}

func TestIrreducibleByDefinition(t *testing.T) {
	for p := range uint64(1 << 10) {
		n := degree(long(p))
		want := n >= 1
		for b := uint64(2); want && degree(long(b)) < n; b++ {
			want = !divides(b, p)
		}
		if is := Irreducible(p); is != want {
			t.Errorf("Irreducible(%d) = %v, not %v", p, is, want)
		}
	}
}

// rank returns how many of some polynomials are no sums of others of them.
func rank(l []uint64) int {
	n := 0
	for i := range l {
		if l[i] == 0 {
			continue
		}
		n++
		for k := i + 1; k < len(l); k++ {
			if l[k]&(l[i]&-l[i]) != 0 {
				l[k] ^= l[i]
			}
		}
	}
	return n
}

// berlekamp reports whether a polynomial is irreducible in another way than the program: it has no factor twice, which its derivative would have as well, and no remainders but 0 and 1 are their own squares.
func berlekamp(p uint64) bool {
	n := Degree(p)
	if n < 1 || Gcd(p, p>>1&0x5555555555555555) != 1 {
		return false
	}
	var l []uint64
	for i := range n {
		square := remainder(new(big.Int).Lsh(long(1), uint(2*i)), long(p))
		l = append(l, square^1<<i)
	}
	return rank(l) == n-1
}

func TestIrreducibleOfLongPolynomials(t *testing.T) {
	d := newDice()
	found := make([]int, 64) // how many were irreducible, by their degrees
	for i := range 4000 {
		p := d.ofDegree(63)
		if i%2 == 1 {
			p = d.modulus()
		}
		p |= 1 // otherwise x divides it
		want := berlekamp(p)
		if is := Irreducible(p); is != want {
			t.Fatalf("Irreducible(%d) = %v, not %v", p, is, want)
		}
		if want {
			found[Degree(p)]++
		}
	}
	if found[63] == 0 {
		t.Error("no polynomial of degree 63 was irreducible")
	}
}

// P3.4: coefficients in the opposite order.

func TestReverse(t *testing.T) {
	for _, c := range []struct {
		p uint64
		n int
		r uint64
		e api.Errno
	}{
		{0, 0, 0, api.OK},
		{1<<64 - 1, 0, 0, api.OK},
		{1, 1, 1, api.OK},
		{2, 1, 0, api.OK},
		{1<<64 - 1, 1, 1, api.OK},
		{1, 63, 1 << 62, api.OK},
		{1 << 63, 63, 0, api.OK},
		{1, 64, 1 << 63, api.OK},
		{1 << 63, 64, 1, api.OK},
		{1<<64 - 1, 64, 1<<64 - 1, api.OK},
		{0x04c11db7, 32, 0xedb88320, api.OK},
		{0x104c11db7, 32, 0xedb88320, api.OK},
		{5, -1, 0, api.ErrArg},
		{5, 65, 0, api.ErrArg},
		{5, math.MaxInt, 0, api.ErrArg},
		{5, math.MinInt, 0, api.ErrArg},
	} {
		if r, e := Reverse(c.p, c.n); r != c.r || e != c.e {
			t.Errorf("Reverse(%d, %d) = %d %d, not %d %d", c.p, c.n, r, e, c.r, c.e)
		}
	}
}

func TestReverseByDefinition(t *testing.T) {
	d := newDice()
	for range 50 {
		p := d.next()
		for n := range 65 {
			var want uint64
			for i := range n {
				want |= p >> (n - 1 - i) & 1 << i
			}
			if r, e := Reverse(p, n); r != want || e != api.OK {
				t.Fatalf("Reverse(%d, %d) = %d %d, not %d", p, n, r, e, want)
			}
		}
	}
}

// P3.5: texts.

// define writes the text of a polynomial as the chapter describes it.
func define(p uint64) string {
	s := ""
	for i := 63; i >= 0; i-- {
		if p>>i&1 == 0 {
			continue
		}
		if s != "" {
			s += "+"
		}
		switch i {
		case 0:
			s += "1"
		case 1:
			s += "x"
		default:
			s += "x^" + strconv.Itoa(i)
		}
	}
	if s == "" {
		return "0"
	}
	return s
}

// understand reads a text by its definition: it returns the polynomial of degrees up to 63 whose text it is, if there is one.
func understand(s string) (uint64, bool) {
	var p uint64
	for _, term := range strings.Split(s, "+") {
		i, e := strconv.Atoi(strings.TrimPrefix(term, "x^"))
		switch {
		case term == "x":
			p |= 2
		case term == "1":
			p |= 1
		case e == nil && i >= 0 && i <= 63:
			p |= 1 << i
		}
	}
	if s == "0" {
		p = 0
	}
	return p, define(p) == s
}

func checkRead(t *testing.T, s string) {
	t.Helper()
	want, is := understand(s)
	e := api.OK
	if !is {
		want, e = 0, ErrText
	}
	if p, f := Read(s); p != want || f != e {
		t.Fatalf("Read(%q) = %d %d, not %d %d", s, p, f, want, e)
	}
}

func TestTexts(t *testing.T) {
	for _, c := range []struct {
		p uint64
		s string
	}{
		{0, "0"},
		{1, "1"},
		{2, "x"},
		{3, "x+1"},
		{4, "x^2"},
		{7, "x^2+x+1"},
		{6, "x^2+x"},
		{1 << 10, "x^10"},
		{1<<63 | 1<<62 | 1, "x^63+x^62+1"},
		{1<<63 | 1<<6 | 1<<3, "x^63+x^6+x^3"},
		{0x104c11db7, "x^32+x^26+x^23+x^22+x^16+x^12+x^11+x^10+x^8+x^7+x^5+x^4+x^2+x+1"},
	} {
		if s := Text(c.p); s != c.s {
			t.Errorf("Text(%d) = %q, not %q", c.p, s, c.s)
		}
		if p, e := Read(c.s); p != c.p || e != api.OK {
			t.Errorf("Read(%q) = %d %d, not %d", c.s, p, e, c.p)
		}
	}
}

func TestTextsByDefinition(t *testing.T) {
	d := newDice()
	l := some()
	for range 2000 {
		l = append(l, d.poly(), d.next()&d.next()&d.next())
	}
	for _, p := range l {
		if s := Text(p); s != define(p) {
			t.Errorf("Text(%d) = %q, not %q", p, s, define(p))
		}
	}
}

func TestReadRefusesWhatIsNoText(t *testing.T) {
	for _, s := range []string{
		"", " ", "+", "^", "\x00", "\xff", "00", "2", "10", "-1", "+0", "0+", "0+0", "0+1", "1+0", "x+0",
		"X", "x^", "x^0", "x^1", "x^02", "x^+2", "x^-2", "x^64", "x^65", "x^70", "x^100", "x^630", "x^99999999999999999999", "x^2^3", "x2", "2x", "xx", "x*x",
		"1+", "+1", "x+", "+x", "x^2+", "+x^2", "x++1", "x^3++x", "x+1+", "x^63+",
		"1+1", "x+x", "x^5+x^5", "1+x", "x+x^2", "x^2+x^3", "x^62+x^63", "x^2+1+x", "x^9+x^10",
		"x 1", "x +1", "x+ 1", " x", "x ", "x\n", "x+1\x00", "x-1", "x^2,x", "x^2+y", "x^2+11", "x11",
		"x^\u0662", "x\u00b2",
	} {
		if p, e := Read(s); p != 0 || e != ErrText {
			t.Errorf("Read(%q) = %d %d, not %d", s, p, e, ErrText)
		}
		checkRead(t, s)
	}
}

// Every string of up to six of the bytes of which texts are made (but only three of the digits).
func TestReadByDefinition(t *testing.T) {
	var all func(s string, n int)
	all = func(s string, n int) {
		checkRead(t, s)
		for _, c := range "0126x^+" {
			if n > 0 {
				all(s+string(c), n-1)
			}
		}
	}
	all("", 6)
	for _, begin := range []string{"x^", "x^6", "x^12+", "x^63+x^", "x^2+x+"} {
		all(begin, 4)
	}
}

// Texts in which one byte is another one, is left out, or is there twice.
func TestReadOfSpoiltTexts(t *testing.T) {
	d := newDice()
	l := []uint64{1<<64 - 1, 0x104c11db7, 0xaaaaaaaaaaaaaaaa}
	for range 20 {
		l = append(l, d.poly())
	}
	for _, p := range l {
		s := Text(p)
		for i := range len(s) {
			checkRead(t, s[:i]+s[i+1:])
			checkRead(t, s[:i+1]+s[i:])
			for _, c := range "0123456789x^+X -\x00" {
				checkRead(t, s[:i]+string(c)+s[i+1:])
			}
		}
	}
}

func TestReadOfLongStrings(t *testing.T) {
	longest := Text(1<<64 - 1)
	if p, e := Read(longest); len(longest) != 305 || p != 1<<64-1 || e != api.OK {
		t.Error(len(longest), p, e)
	}
	for _, c := range []struct {
		s string
		e api.Errno
	}{
		{longest + "+", ErrText},
		{longest + strings.Repeat("+", 95), ErrText},
		{longest + strings.Repeat("+", 96), api.ErrLong},
		{strings.Repeat("x", 400), ErrText},
		{strings.Repeat("x", 401), api.ErrLong},
		{strings.Repeat("\x00", 400), ErrText},
		{strings.Repeat("\x00", 401), api.ErrLong},
		{"x^" + strings.Repeat("9", 398), ErrText},
		{strings.Repeat("0", 400), ErrText},
		{strings.Repeat("1+", 200), ErrText},
		{strings.Repeat("1+", 1<<20), api.ErrLong},
		{strings.Repeat("\u00e9", 200), ErrText},
		{strings.Repeat("\u00e9", 201), api.ErrLong},
	} {
		if p, e := Read(c.s); p != 0 || e != c.e {
			t.Errorf("Read of %d bytes from %q on = %d %d, not %d", len(c.s), c.s[:5], p, e, c.e)
		}
	}
}

// P3.6: consequences.

func TestProductsDoNotDependOnTheOrder(t *testing.T) {
	d := newDice()
	for range 2000 {
		a, b, m := d.poly(), d.poly(), d.modulus()
		p, e := Mul(a, b)
		if q, f := Mul(b, a); p != q || e != f {
			t.Fatalf("Mul(%d, %d) = %d %d, and otherwise %d %d", a, b, p, e, q, f)
		}
		p, _ = MulMod(a, b, m)
		if q, _ := MulMod(b, a, m); p != q {
			t.Fatalf("MulMod(%d, %d, %d) = %d, and otherwise %d", a, b, m, p, q)
		}
	}
}

func TestProductsDistributeOverSums(t *testing.T) {
	d := newDice()
	for range 2000 {
		a, b, c := d.next()>>33, d.next()>>32, d.next()>>(32+d.below(32))
		p, _ := Mul(a, b)
		q, _ := Mul(a, c)
		if sum, e := Mul(a, b^c); sum != p^q || e != api.OK {
			t.Fatalf("Mul(%d, %d) = %d %d, not %d", a, b^c, sum, e, p^q)
		}
		m := d.next()
		a, b, c = d.next(), d.next(), d.next()
		p, _ = MulMod(a, b, m)
		q, _ = MulMod(a, c, m)
		if sum, _ := MulMod(a, b^c, m); sum != p^q {
			t.Fatalf("MulMod(%d, %d, %d) = %d, not %d", a, b^c, m, sum, p^q)
		}
	}
}

func TestQuotientsMakeTheDividend(t *testing.T) {
	d := newDice()
	for range 5000 {
		a, b := d.poly(), d.modulus()
		q, r, _ := Div(a, b)
		p, e := Mul(q, b)
		if p^r != a || e != api.OK || Degree(r) >= Degree(b) {
			t.Fatalf("Div(%d, %d) = %d %d, which make %d %d", a, b, q, r, p^r, e)
		}
	}
}

// If a smaller power were 1 as well, the least one would be a divisor of the order.
func TestOrdersAreTheLeast(t *testing.T) {
	d := newDice()
	for range 200 {
		m := d.ofDegree(1+d.below(20)) | 1
		n, e := Order(m)
		if e != api.OK || n < 1 || n >= 1<<20 {
			t.Fatalf("Order(%d) = %d %d", m, n, e)
		}
		if p, _ := Power(n, m); p != 1 {
			t.Fatalf("Order(%d) = %d, and that power is %d", m, n, p)
		}
		for k := 2; k <= n; k++ {
			if n%k != 0 {
				continue
			}
			if p, _ := Power(n/k, m); p == 1 {
				t.Fatalf("Order(%d) = %d, but x^%d is 1 as well", m, n, n/k)
			}
		}
	}
}

func TestProductsAreNotIrreducible(t *testing.T) {
	// For each degree the first irreducible polynomial.
	l := []uint64{2, 3}
	for n := 2; n < 63; n++ {
		for p := uint64(1)<<n | 1; ; p += 2 {
			if berlekamp(p) {
				l = append(l, p)
				break
			}
		}
	}
	for _, a := range l {
		if !Irreducible(a) {
			t.Errorf("Irreducible(%d) = false", a)
		}
		for _, b := range l {
			p, e := Mul(a, b)
			if e == api.OK && Irreducible(p) {
				t.Errorf("Irreducible(%d) = true, but it is the product of %d and %d", p, a, b)
			}
		}
	}
	d := newDice()
	for range 3000 {
		n := 1 + d.below(62)
		a, b := d.ofDegree(n), d.ofDegree(1+d.below(63-n))
		if p, e := Mul(a, b); e != api.OK || Irreducible(p) {
			t.Fatalf("Irreducible(%d) = true, but it is the product of %d and %d", p, a, b)
		}
	}
}

func TestReversedTwice(t *testing.T) {
	d := newDice()
	for range 200 {
		p := d.poly()
		for n := range 65 {
			once, _ := Reverse(p, n)
			twice, e := Reverse(once, n)
			want := p
			if n < 64 {
				want = p & (1<<n - 1)
			}
			if twice != want || e != api.OK || bits.Len64(once) > n {
				t.Fatalf("Reverse(%d, %d) = %d, and reversed again %d %d", p, n, once, twice, e)
			}
		}
	}
}

func TestWrittenIsReadBack(t *testing.T) {
	d := newDice()
	l := some()
	for p := range uint64(2048) {
		l = append(l, p, d.poly(), d.next())
	}
	for _, p := range l {
		if q, e := Read(Text(p)); q != p || e != api.OK {
			t.Fatalf("Read(%q) = %d %d, not %d", Text(p), q, e, p)
		}
	}
}
