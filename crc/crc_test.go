package crc

import (
	"bytes"
	"encoding/binary"
	"hash/crc32"
	"math"
	"math/big"
	"math/rand/v2"
	"slices"
	"testing"

	"quantum/api"
)

// newDice throws the same numbers in every run.
func newDice() *rand.Rand { return rand.New(rand.NewPCG(4, 32)) }

// throw answers n bytes that look random.
func throw(d *rand.Rand, n int) []byte {
	b := make([]byte, n)
	for i := range b {
		b[i] = byte(d.Uint32())
	}
	return b
}

// some are bytes of many lengths: none, all single bytes, zeros, ones, and others.
func some() [][]byte {
	l := [][]byte{nil, {}, []byte("123456789"), []byte("quantum")}
	for x := range 256 {
		l = append(l, []byte{byte(x)})
	}
	d := newDice()
	for n := range 40 {
		l = append(l, make([]byte, n), bytes.Repeat([]byte{255}, n), throw(d, n), throw(d, 1+d.IntN(300)))
	}
	return l
}

// bit answers a bit of bytes as the chapter numbers them.
func bit(b []byte, k int) uint { return uint(b[k/8]) >> (k % 8) & 1 }

// flip answers other bytes in which some bits are changed.
func flip(b []byte, bits ...int) []byte {
	b = bytes.Clone(b)
	for _, k := range bits {
		b[k/8] ^= 1 << (k % 8)
	}
	return b
}

// divide answers the linear part of bytes by its definition: a long division, and the remainder in the opposite order.
func divide(b []byte) uint32 {
	n := 8 * len(b)
	p, g := new(big.Int), big.NewInt(0x104c11db7)
	for k := range n {
		p.SetBit(p, n-1-k, bit(b, k))
	}
	p.Lsh(p, 32)
	for i := p.BitLen() - 1; i >= 32; i = p.BitLen() - 1 {
		p.Xor(p, new(big.Int).Lsh(g, uint(i-32)))
	}
	var c uint32
	for k := range 32 {
		c |= uint32(p.Bit(31-k)) << k
	}
	return c
}

// register answers the checksum of bytes by its definition.
func register(b []byte) uint32 {
	c := uint32(math.MaxUint32)
	for _, x := range b {
		c = c>>8 ^ divide([]byte{byte(c) ^ x})
	}
	return ^c
}

// seal answers bytes with the checksum of another program.
func seal(b []byte) []byte {
	return binary.LittleEndian.AppendUint32(bytes.Clone(b), crc32.ChecksumIEEE(b))
}

// sealed reports by another program whether bytes are sealed.
func sealed(b []byte) bool {
	return len(b) >= 4 && crc32.ChecksumIEEE(b[:len(b)-4]) == binary.LittleEndian.Uint32(b[len(b)-4:])
}

// undetected answers bits of n bytes that are a multiple of the generator: the terms of G times x^s.
func undetected(n, s int) []int {
	var l []int
	for i := 32; i >= 0; i-- {
		if Poly>>i&1 == 1 {
			l = append(l, 8*n-1-s-i)
		}
	}
	return l
}

func TestConstants(t *testing.T) {
	if uint64(Poly) != 0x104c11db7 || MaxBytes != 16777216 {
		t.Error(uint64(Poly), MaxBytes)
	}
	var p uint64
	for _, i := range []int{32, 26, 23, 22, 16, 12, 11, 10, 8, 7, 5, 4, 2, 1, 0} {
		p |= 1 << i
	}
	if p != Poly {
		t.Error(p)
	}
}

// The chapter's examples.

func TestExamples(t *testing.T) {
	for _, c := range []struct {
		s string
		c uint32
	}{{"", 0}, {"123456789", 0xcbf43926}, {"\x00", 0xd202ef8d}} {
		if sum := Sum([]byte(c.s)); sum != c.c {
			t.Errorf("Sum(%q) = %x, not %x", c.s, sum, c.c)
		}
	}
	if c := Linear([]byte{128}); c != 0xedb88320 {
		t.Errorf("%x", c)
	}
	if c := Linear([]byte{1}); c != 0x77073096 {
		t.Errorf("%x", c)
	}
	if b, e := Seal(nil); !bytes.Equal(b, []byte{0, 0, 0, 0}) || e != api.OK {
		t.Error(b, e)
	}
	if c, e := Join(Sum([]byte("1234")), Sum([]byte("56789")), 5); c != 0xcbf43926 || e != api.OK {
		t.Errorf("%x %d", c, e)
	}
	if c, e := Bit(1, 7); c != 0xedb88320 || e != api.OK {
		t.Errorf("%x %d", c, e)
	}
}

// P4.1: checksums and linear parts.

func TestSum(t *testing.T) {
	for _, b := range some() {
		if c := Sum(b); c != register(b) || c != crc32.ChecksumIEEE(b) {
			t.Errorf("Sum(%v) = %x, not %x", b, c, register(b))
		}
	}
}

func TestLinear(t *testing.T) {
	for _, b := range some() {
		if c := Linear(b); c != divide(b) {
			t.Errorf("Linear(%v) = %x, not %x", b, c, divide(b))
		}
	}
	for _, c := range []struct {
		b []byte
		c uint32
	}{{nil, 0}, {[]byte{0}, 0}, {make([]byte, 1000), 0}, {[]byte{0, 0, 128}, 0xedb88320}, {[]byte{1, 0, 0, 0}, 0xb8bc6765}} {
		if got := Linear(c.b); got != c.c || divide(c.b) != c.c {
			t.Errorf("Linear(%v) = %x, not %x", c.b, got, c.c)
		}
	}
}

func TestUpdate(t *testing.T) {
	d := newDice()
	for _, b := range some() {
		for range 4 {
			i := d.IntN(len(b) + 1)
			if c := Update(Sum(b[:i]), b[i:]); c != crc32.ChecksumIEEE(b) {
				t.Errorf("Update of %v from %d on = %x, not %x", b, i, c, crc32.ChecksumIEEE(b))
			}
		}
		c := d.Uint32()
		if got := Update(c, b); got != crc32.Update(c, crc32.IEEETable, b) {
			t.Errorf("Update(%x, %v) = %x", c, b, got)
		}
		if Update(0, b) != Sum(b) || Update(c, nil) != c {
			t.Errorf("Update(0, %v) = %x and Update(%x, nil) = %x", b, Update(0, b), c, Update(c, nil))
		}
	}
}

func TestSumsOfManyBytes(t *testing.T) {
	// There is no limit for these: Seal alone has one.
	b := throw(newDice(), MaxBytes+5)
	if c := Sum(b); c != crc32.ChecksumIEEE(b) {
		t.Errorf("%x", c)
	}
	if c := Linear(b); ^c != crc32.Update(math.MaxUint32, crc32.IEEETable, b) {
		t.Errorf("%x", c)
	}
}

// P4.2: bytes 0 after others, and bytes after others.

func TestShift(t *testing.T) {
	d := newDice()
	for range 300 {
		b := throw(d, d.IntN(30))
		n := d.IntN(30)
		if c, e := Shift(Linear(b), n); c != divide(append(b, make([]byte, n)...)) || e != api.OK {
			t.Fatalf("Shift of %v by %d = %x %d", b, n, c, e)
		}
	}
	for range 300 {
		// Every number is the linear part of some bytes.
		c, n := d.Uint32(), d.IntN(3000)
		want := ^crc32.Update(^c, crc32.IEEETable, make([]byte, n))
		if got, e := Shift(c, n); got != want || e != api.OK {
			t.Fatalf("Shift(%x, %d) = %x %d, not %x", c, n, got, e, want)
		}
	}
}

func TestJoin(t *testing.T) {
	d := newDice()
	for range 300 {
		a, b := throw(d, d.IntN(50)), throw(d, d.IntN(50))
		c, e := Join(Sum(a), Sum(b), len(b))
		if c != crc32.ChecksumIEEE(append(a, b...)) || e != api.OK {
			t.Fatalf("Join(%x, %x, %d) = %x %d", Sum(a), Sum(b), len(b), c, e)
		}
	}
	for range 300 {
		// Also numbers that are no checksums of so few bytes.
		a, b, n := d.Uint32(), d.Uint32(), d.IntN(9)
		want, _ := Shift(a, n)
		if c, e := Join(a, b, n); c != want^b || e != api.OK {
			t.Fatalf("Join(%x, %x, %d) = %x %d", a, b, n, c, e)
		}
	}
}

func TestShiftAndJoinAtTheirLimits(t *testing.T) {
	d := newDice()
	zeros := make([]byte, MaxBytes)
	for _, n := range []int{0, 1, 2, 1<<16 - 1, MaxBytes - 1, MaxBytes} {
		a, b := d.Uint32(), d.Uint32()
		want := ^crc32.Update(^a, crc32.IEEETable, zeros[:n])
		if c, e := Shift(a, n); c != want || e != api.OK {
			t.Errorf("Shift(%x, %d) = %x %d, not %x", a, n, c, e, want)
		}
		if c, e := Join(a, b, n); c != want^b || e != api.OK {
			t.Errorf("Join(%x, %x, %d) = %x %d, not %x", a, b, n, c, e, want^b)
		}
	}
	for _, n := range []int{-1, MaxBytes + 1, math.MinInt, math.MaxInt} {
		if c, e := Shift(1, n); c != 0 || e != api.ErrArg {
			t.Errorf("Shift(1, %d) = %x %d", n, c, e)
		}
		if c, e := Join(1, 2, n); c != 0 || e != api.ErrArg {
			t.Errorf("Join(1, 2, %d) = %x %d", n, c, e)
		}
	}
}

// P4.3: sealed bytes.

func TestSeal(t *testing.T) {
	for _, b := range some() {
		s, e := Seal(b)
		if !bytes.Equal(s, seal(b)) || e != api.OK {
			t.Errorf("Seal(%v) = %v %d, not %v", b, s, e, seal(b))
		}
		if !Sealed(s) {
			t.Errorf("Sealed(%v) = false", s)
		}
		if o, e := Open(s); !bytes.Equal(o, b) || e != api.OK {
			t.Errorf("Open(%v) = %v %d, not %v", s, o, e, b)
		}
	}
	// The lowest byte of the checksum comes first.
	if s, _ := Seal([]byte("123456789")); !bytes.Equal(s[9:], []byte{0x26, 0x39, 0xf4, 0xcb}) {
		t.Error(s)
	}
}

func TestSealTwice(t *testing.T) {
	for _, b := range some() {
		once, _ := Seal(b)
		twice, e := Seal(once)
		if e != api.OK || !Sealed(twice) || !bytes.Equal(twice, seal(seal(b))) {
			t.Errorf("Seal(%v) = %v %d", once, twice, e)
		}
		if o, e := Open(twice); !bytes.Equal(o, once) || e != api.OK {
			t.Errorf("Open(%v) = %v %d", twice, o, e)
		}
	}
}

func TestWhatIsNotSealed(t *testing.T) {
	d := newDice()
	l := [][]byte{nil, {}, {0}, {0, 0}, {0, 0, 0}, {0, 0, 0, 0}, {0, 0, 0, 0, 0}, {0, 0, 0, 1}, {255, 255, 255, 255}, []byte("123456789\xcb\xf4\x39\x26")}
	for _, b := range some() {
		s := seal(b)
		l = append(l, b, flip(s, d.IntN(8*len(s))), s[1:], s[:len(s)-1], append(s, 0), append([]byte{0}, s...))
	}
	for _, b := range l {
		is := sealed(b)
		if Sealed(b) != is {
			t.Errorf("Sealed(%v) = %v", b, !is)
		}
		want, f := []byte(nil), api.ErrArg
		if is {
			want, f = b[:len(b)-4], api.OK
		}
		if o, e := Open(b); !bytes.Equal(o, want) || e != f {
			t.Errorf("Open(%v) = %v %d, not %v %d", b, o, e, want, f)
		}
	}
}

func TestSealOfManyBytes(t *testing.T) {
	b := throw(newDice(), MaxBytes+1)
	if s, e := Seal(b); s != nil || e != api.ErrLong {
		t.Error(len(s), e)
	}
	s, e := Seal(b[:MaxBytes])
	if e != api.OK || !bytes.Equal(s, seal(b[:MaxBytes])) || !Sealed(s) {
		t.Fatal(len(s), e)
	}
	if o, e := Open(s); !bytes.Equal(o, b[:MaxBytes]) || e != api.OK {
		t.Error(len(o), e)
	}
	// What is sealed has up to 4 bytes more than what Seal takes; nothing limits Sealed and Open.
	if s = seal(b); !Sealed(s) {
		t.Error("not sealed")
	}
	if o, e := Open(s); !bytes.Equal(o, b) || e != api.OK {
		t.Error(len(o), e)
	}
	if s, e := Seal(s); s != nil || e != api.ErrLong {
		t.Error(len(s), e)
	}
}

// P4.4: single bits, and changes.

func TestBit(t *testing.T) {
	for n := 1; n <= 24; n++ {
		for k := range 8 * n {
			want := divide(flip(make([]byte, n), k))
			if c, e := Bit(n, k); c != want || e != api.OK {
				t.Errorf("Bit(%d, %d) = %x %d, not %x", n, k, c, e, want)
			}
		}
	}
}

func TestBitAtItsLimits(t *testing.T) {
	last := 8*MaxBytes - 1
	for _, k := range []int{0, 1, 7, 8, 8*MaxBytes - 33, 8*MaxBytes - 32, last - 1, last} {
		want := ^crc32.Update(math.MaxUint32, crc32.IEEETable, flip(make([]byte, MaxBytes), k))
		if c, e := Bit(MaxBytes, k); c != want || e != api.OK {
			t.Errorf("Bit of the bit %d = %x %d, not %x", k, c, e, want)
		}
	}
	for _, c := range []struct{ n, k int }{
		{0, 0}, {0, -1}, {-1, 0}, {-1, -9}, {math.MinInt, 0}, {math.MinInt, math.MinInt},
		{MaxBytes + 1, 0}, {MaxBytes + 1, -1}, {math.MaxInt, 0}, {math.MaxInt, math.MaxInt}, {1 << 61, 5}, {1<<61 + 5, 3}, {-1<<61 + 5, 3},
		{1, -1}, {1, 8}, {2, 16}, {2, math.MinInt}, {2, math.MaxInt}, {MaxBytes, last + 1},
	} {
		if x, e := Bit(c.n, c.k); x != 0 || e != api.ErrArg {
			t.Errorf("Bit(%d, %d) = %x %d", c.n, c.k, x, e)
		}
	}
}

func checkDamages(t *testing.T, n int, bits []int, want bool) {
	t.Helper()
	if is, e := Damages(n, bits); is != want || e != api.OK {
		t.Fatalf("Damages(%d, %v) = %v %d, not %v", n, bits, is, e, want)
	}
}

func TestDamages(t *testing.T) {
	d := newDice()
	for range 2000 {
		s := seal(throw(d, d.IntN(20)))
		bits := make([]int, d.IntN(12))
		for i := range bits {
			bits[i] = d.IntN(8 * len(s))
		}
		checkDamages(t, len(s), bits, !sealed(flip(s, bits...)))
		// Each bit as often as it is there: a second time it is as it was.
		checkDamages(t, len(s), append(bits, bits...), false)
	}
}

func TestDamagesOfBitsThatOccurTwice(t *testing.T) {
	for _, c := range []struct {
		n    int
		bits []int
		is   bool
	}{
		{4, nil, false},
		{4, []int{}, false},
		{4, []int{0}, true},
		{4, []int{31}, true},
		{4, []int{5, 5}, false},
		{4, []int{5, 5, 5}, true},
		{4, []int{5, 6, 5, 6}, false},
		{4, []int{5, 6, 6, 6}, true},
		{9, []int{71, 0, 40, 0, 71, 40}, false},
		{9, []int{71, 0, 40, 0, 71}, true},
		{9, []int{39, 40, 39, 40, 39}, true},
	} {
		checkDamages(t, c.n, c.bits, c.is)
	}
}

// Multiples of the generator are not found, wherever they begin and end: in the bytes, in the checksum, or in both of them.
func TestDamagesOfMultiplesOfTheGenerator(t *testing.T) {
	d := newDice()
	for n := 5; n <= 12; n++ {
		s := seal(throw(d, n-4))
		for shift := range 8*n - 32 {
			bits := undetected(n, shift)
			if !sealed(flip(s, bits...)) {
				t.Fatal(n, shift, bits)
			}
			checkDamages(t, n, bits, false)
			checkDamages(t, n, bits[1:], true)
			checkDamages(t, n, bits[:len(bits)-1], true)
			checkDamages(t, n, append(bits, undetected(n, d.IntN(8*n-32))...), false)
		}
	}
}

func TestDamagesAtItsLimits(t *testing.T) {
	last := 8*MaxBytes - 1
	checkDamages(t, MaxBytes, []int{last}, true)
	checkDamages(t, MaxBytes, []int{0, last}, true)
	checkDamages(t, MaxBytes, undetected(MaxBytes, 8*MaxBytes-33), false)
	checkDamages(t, MaxBytes, undetected(MaxBytes, 0), false)
	checkDamages(t, MaxBytes, append(undetected(MaxBytes, 77), undetected(MaxBytes, 1<<26)...), false)
	for _, n := range []int{3, 2, 1, 0, -1, MaxBytes + 1, math.MinInt, math.MaxInt, 1 << 61, 1<<61 + 5, -1<<61 + 5} {
		for _, bits := range [][]int{nil, {0}, {-1}, make([]int, 4097)} {
			if is, e := Damages(n, bits); is || e != api.ErrArg {
				t.Errorf("Damages(%d) of %d bits = %v %d", n, len(bits), is, e)
			}
		}
	}
	for _, k := range []int{-1, 32, 33, math.MinInt, math.MaxInt} {
		for _, bits := range [][]int{{k}, {0, k}, {k, 0}, {k, k}, append(make([]int, 4096), k), append([]int{k}, make([]int, 9000)...)} {
			if is, e := Damages(4, bits); is || e != api.ErrArg {
				t.Errorf("Damages(4) of %d bits with %d = %v %d", len(bits), k, is, e)
			}
		}
	}
	if is, e := Damages(MaxBytes, []int{last + 1}); is || e != api.ErrArg {
		t.Error(is, e)
	}
	checkDamages(t, 4, make([]int, 4095), true)
	checkDamages(t, 4, make([]int, 4096), false)
	for _, m := range []int{4097, 4098, 1 << 17} {
		if is, e := Damages(4, make([]int, m)); is || e != api.ErrMany {
			t.Errorf("Damages(4) of %d bits = %v %d", m, is, e)
		}
	}
}

// P4.5: the bit that has to be changed.

// attempt answers the least bit without which bytes are not sealed by changing every one of them.
func attempt(b []byte) (int, api.Errno) {
	for k := range 8 * len(b) {
		if sealed(flip(b, k)) {
			return k, api.OK
		}
	}
	return 0, api.ErrNone
}

func checkFind(t *testing.T, b []byte, want int, f api.Errno) {
	t.Helper()
	if k, e := Find(b); k != want || e != f {
		t.Fatalf("Find of %d bytes = %d %d, not %d %d", len(b), k, e, want, f)
	}
}

func TestFind(t *testing.T) {
	d := newDice()
	for n := 4; n <= 40; n++ {
		s := seal(throw(d, n-4))
		checkFind(t, s, 0, api.ErrNone)
		for k := range 8 * n {
			checkFind(t, flip(s, k), k, api.OK)
		}
	}
}

func TestFindByTrying(t *testing.T) {
	d := newDice()
	for i := range 400 {
		s := seal(throw(d, d.IntN(8)))
		bits := make([]int, i%8)
		for j := range bits {
			bits[j] = d.IntN(8 * len(s))
		}
		if i%2 == 1 && len(s) > 4 {
			// All but one bit of what is not found: that one is left.
			bits = undetected(len(s), d.IntN(8*len(s)-32))
			bits = slices.Delete(bits, 3, 4)
		}
		b := flip(s, bits...)
		k, e := attempt(b)
		checkFind(t, b, k, e)
		b = throw(d, 4+d.IntN(8))
		k, e = attempt(b)
		checkFind(t, b, k, e)
	}
	for _, b := range [][]byte{{0, 0, 0, 0}, {0, 0, 0, 1}, {0, 0, 0, 128}, {3, 0, 0, 0}, {0, 0, 0, 0, 0}, {255, 255, 255, 255}} {
		k, e := attempt(b)
		checkFind(t, b, k, e)
	}
}

func TestFindAtItsLimits(t *testing.T) {
	for n := range 4 {
		checkFind(t, make([]byte, n), 0, api.ErrArg)
	}
	checkFind(t, nil, 0, api.ErrArg)
	d := newDice()
	s := seal(throw(d, 1<<16-4))
	checkFind(t, s, 0, api.ErrNone)
	for _, k := range []int{0, 1, 7, 8, 4095, 8<<16 - 34, 8<<16 - 33, 8<<16 - 32, 8<<16 - 31, 8<<16 - 2, 8<<16 - 1, d.IntN(8 << 16)} {
		checkFind(t, flip(s, k), k, api.OK)
	}
	checkFind(t, flip(s, 5, 6), 0, api.ErrNone)
	// One byte more is too much, sealed or not.
	s = seal(throw(d, 1<<16-3))
	checkFind(t, s, 0, api.ErrArg)
	checkFind(t, flip(s, 9), 0, api.ErrArg)
	checkFind(t, make([]byte, MaxBytes), 0, api.ErrArg)
}

// P4.6: consequences.

func TestLinearPartsAreLinear(t *testing.T) {
	d := newDice()
	for range 500 {
		n := d.IntN(100)
		a, b, both := throw(d, n), throw(d, n), make([]byte, n)
		var bits uint32
		for i := range n {
			both[i] = a[i] ^ b[i]
		}
		for k := range 8 * n {
			if bit(both, k) == 1 {
				c, _ := Bit(n, k)
				bits ^= c
			}
		}
		if c := Linear(both); c != Linear(a)^Linear(b) || c != bits {
			t.Fatalf("Linear of %v and %v is %x, not %x or %x", a, b, c, Linear(a)^Linear(b), bits)
		}
		if Sum(a)^Sum(b) != Linear(both) {
			t.Fatalf("the sums of %v and %v differ by another linear part", a, b)
		}
	}
}

// Whether a change is found depends on its bits alone.
func TestChangesDoNotDependOnTheBytes(t *testing.T) {
	d := newDice()
	for i := range 300 {
		n := 5 + d.IntN(20)
		bits := []int{d.IntN(8 * n), d.IntN(8 * n), d.IntN(8 * n), d.IntN(8 * n)}
		if i%2 == 0 {
			bits = undetected(n, d.IntN(8*n-32))
		}
		is, e := Damages(n, bits)
		for range 4 {
			s, _ := Seal(throw(d, n-4))
			if e != api.OK || Sealed(flip(s, bits...)) == is {
				t.Fatalf("Damages(%d, %v) = %v %d, but Sealed(%v) = %v", n, bits, is, e, flip(s, bits...), is)
			}
		}
	}
}

// parts answers the linear parts of all bits of n bytes.
func parts(t *testing.T, n int) []uint32 {
	t.Helper()
	l := make([]uint32, 8*n)
	for k := range l {
		c, e := Bit(n, k)
		if e != api.OK {
			t.Fatalf("Bit(%d, %d) = %x %d", n, k, c, e)
		}
		l[k] = c
	}
	return l
}

// rank answers how many of some linear parts are no sums of others of them.
func rank(l []uint32) int {
	n := 0
	l = slices.Clone(l)
	for i, c := range l {
		if c == 0 {
			continue
		}
		n++
		for k := i + 1; k < len(l); k++ {
			if l[k]&(c&-c) != 0 {
				l[k] ^= c
			}
		}
	}
	return n
}

// If no sum of the linear parts of 32 bits in a row is 0, every change of them is found.
func TestChangesWithin32BitsAreFound(t *testing.T) {
	l := parts(t, 4096)
	for i := range len(l) - 31 {
		if n := rank(l[i : i+32]); n != 32 {
			t.Fatalf("the 32 bits from %d on have the rank %d", i, n)
		}
	}
	d := newDice()
	for i := range 2000 {
		n := 4 + d.IntN(40)
		from := d.IntN(8*n - 31)
		if i%2 == 0 {
			// From the bytes into the checksum.
			n++
			from = 8*n - 33 - d.IntN(min(31, 8*n-32))
		}
		var bits []int
		for k := range 32 {
			if d.IntN(2) == 1 {
				bits = append(bits, from+k)
			}
		}
		if len(bits) == 0 {
			bits = append(bits, from)
		}
		checkDamages(t, n, bits, true)
		if s := flip(seal(throw(d, n-4)), bits...); Sealed(s) {
			t.Fatalf("Sealed(%v) = true after a change of %v", s, bits)
		}
	}
}

// Every change of up to ten bits in a row of a few bytes.
func TestShortChangesAreFound(t *testing.T) {
	for first := range 8*6 - 9 {
		for pattern := 1; pattern < 1<<10; pattern += 2 {
			var bits []int
			for k := range 10 {
				if pattern>>k&1 == 1 {
					bits = append(bits, first+k)
				}
			}
			checkDamages(t, 6, bits, true)
		}
	}
}

// Changes can be moved to the end of the bytes: so it is enough to look at those with the last bit, and two others.
func TestChangesOfThreeBitsAreFound(t *testing.T) {
	l := parts(t, 4096)
	at := map[uint32]int{}
	for k, c := range l {
		if other, is := at[c]; is || c == 0 {
			t.Fatalf("the bits %d and %d have the same linear part %x", k, other, c)
		}
		at[c] = k
	}
	last := len(l) - 1
	for k, c := range l[:last] {
		if other, is := at[c^l[last]]; is {
			t.Fatalf("changes of the bits %d, %d and %d are not found", k, other, last)
		}
	}
	d := newDice()
	for range 2000 {
		n := 4 + d.IntN(4093)
		a, b, c := d.IntN(8*n), d.IntN(8*n), d.IntN(8*n)
		checkDamages(t, n, []int{a}, true)
		checkDamages(t, n, []int{a, b}, a != b)
		// If two of them are the same, the third one alone is changed.
		checkDamages(t, n, []int{a, b, c}, true)
	}
}

func TestOneChangedBitIsFoundInManyBytes(t *testing.T) {
	d := newDice()
	for range 200 {
		n := 4 + d.IntN(4093)
		s, _ := Seal(throw(d, n-4))
		k := d.IntN(8 * n)
		checkFind(t, flip(s, k), k, api.OK)
	}
	s, _ := Seal(throw(d, 4092))
	for k := 0; k < 8*4096; k += 61 {
		checkFind(t, flip(s, k), k, api.OK)
	}
}

// Arguments are not modified, and results share no memory with them.

func TestArgumentsStayAsTheyAre(t *testing.T) {
	d := newDice()
	for _, n := range []int{0, 1, 4, 5, 30} {
		room := seal(throw(d, n))
		end := len(room)
		room = append(room, 1, 2, 3, 4, 5, 6, 7, 8)
		before := bytes.Clone(room)
		b := room[:end]
		Sum(b)
		Update(7, b)
		Linear(b)
		Sealed(b)
		Find(b)
		sealed, _ := Seal(b)
		opened, e := Open(b)
		if e != api.OK {
			t.Fatal(b, e)
		}
		if !bytes.Equal(room, before) {
			t.Errorf("%v became %v", before, room)
		}
		want, short := bytes.Clone(sealed), bytes.Clone(opened)
		for i := range room {
			room[i]++
		}
		if !bytes.Equal(sealed, want) || !bytes.Equal(opened, short) {
			t.Errorf("a result of %v has changed with it", before)
		}
	}
	bits := []int{9, 3, 9, 0, 31, 8, 8}
	before := slices.Clone(bits)
	Damages(4, bits[:5])
	if !slices.Equal(bits, before) {
		t.Errorf("%v became %v", before, bits)
	}
}

func TestCallsDoNotDependOnEachOther(t *testing.T) {
	b := []byte("123456789")
	for range 3 {
		if c := Sum(b); c != 0xcbf43926 {
			t.Errorf("%x", c)
		}
		if c := Linear(b); c != divide(b) {
			t.Errorf("%x", c)
		}
		Update(5, b)
		Find(b)
	}
}
