package varint

import (
	"bytes"
	"encoding/binary"
	"math/big"
	"slices"
	"testing"

	"quantum/api"
)

// The numbers around every border between two sizes, and around every power of two.
func borders() []uint64 {
	l := []uint64{0, 300, 1<<64 - 1}
	for k := range 64 {
		x := uint64(1) << k
		l = append(l, x-1, x, x+1)
	}
	slices.Sort(l)
	return slices.Compact(l)
}

// many is borders and a row of numbers of all lengths that looks random but is always the same.
func many() []uint64 {
	l := borders()
	x := uint64(88172645463325252)
	for range 20000 {
		x ^= x << 13
		x ^= x >> 7
		x ^= x << 17
		l = append(l, x>>(x%64))
	}
	return l
}

// form builds the form of a number as the chapter describes it, by division.
func form(x uint64) []byte {
	n, base, rest := new(big.Int).SetUint64(x), big.NewInt(128), new(big.Int)
	var b []byte
	for {
		n.DivMod(n, base, rest)
		if n.Sign() == 0 {
			return append(b, byte(rest.Int64()))
		}
		b = append(b, byte(rest.Int64()+128))
	}
}

// define reads a form by the five steps of the chapter.
func define(b []byte) (uint64, int, api.Errno) {
	sum, weight := new(big.Int), big.NewInt(1)
	for i := 0; ; i++ {
		if i >= len(b) {
			return 0, 0, ErrShort
		}
		if i == 9 && b[i] > 1 {
			return 0, 0, ErrOver
		}
		sum.Add(sum, new(big.Int).Mul(weight, big.NewInt(int64(b[i]%128))))
		weight.Mul(weight, big.NewInt(128))
		if b[i] >= 128 {
			continue
		}
		if b[i] == 0 && i != 0 {
			return 0, 0, ErrZero
		}
		return sum.Uint64(), i + 1, api.OK
	}
}

// full returns n bytes of the value c, and those of tail.
func full(n int, c byte, tail ...byte) []byte {
	return append(bytes.Repeat([]byte{c}, n), tail...)
}

func TestConstants(t *testing.T) {
	if MaxSize != 10 || ErrShort != 10 || ErrOver != 11 || ErrZero != 12 {
		t.Error(MaxSize, ErrShort, ErrOver, ErrZero)
	}
}

// P1.1: the size and the form of a number.

func TestExamplesOfForms(t *testing.T) {
	for _, c := range []struct {
		x uint64
		b []byte
	}{
		{0, []byte{0}},
		{1, []byte{1}},
		{127, []byte{127}},
		{128, []byte{128, 1}},
		{300, []byte{172, 2}},
		{16383, []byte{255, 127}},
		{16384, []byte{128, 128, 1}},
		{1 << 63, full(9, 128, 1)},
		{1<<63 - 1, full(8, 255, 127)},
		{1<<64 - 1, full(9, 255, 1)},
	} {
		if b := Write(c.x); !bytes.Equal(b, c.b) {
			t.Errorf("Write(%d) = %v, not %v", c.x, b, c.b)
		}
		if n := Size(c.x); n != len(c.b) {
			t.Errorf("Size(%d) = %d, not %d", c.x, n, len(c.b))
		}
	}
}

func TestFormsByDefinition(t *testing.T) {
	for _, x := range many() {
		want := form(x)
		if b := Write(x); !bytes.Equal(b, want) || !bytes.Equal(b, binary.AppendUvarint(nil, x)) {
			t.Errorf("Write(%d) = %v, not %v", x, b, want)
		}
		if n := Size(x); n != len(want) || n < 1 || n > MaxSize {
			t.Errorf("Size(%d) = %d, not %d", x, n, len(want))
		}
	}
}

// P1.2: reading one form.

func TestRead(t *testing.T) {
	for _, c := range []struct {
		b []byte
		x uint64
		n int
		e api.Errno
	}{
		{[]byte{172, 2, 7}, 300, 2, api.OK},
		{[]byte{0, 128}, 0, 1, api.OK},
		{[]byte{127}, 127, 1, api.OK},
		{[]byte{128, 1, 128}, 128, 2, api.OK},
		{full(9, 255, 1), 1<<64 - 1, 10, api.OK},
		{full(9, 255, 1, 255, 255), 1<<64 - 1, 10, api.OK},
		{full(9, 128, 1), 1 << 63, 10, api.OK},
		{full(8, 255, 127), 1<<63 - 1, 9, api.OK},

		{nil, 0, 0, ErrShort},
		{[]byte{}, 0, 0, ErrShort},
		{[]byte{128}, 0, 0, ErrShort},
		{[]byte{255, 255}, 0, 0, ErrShort},
		{full(9, 255), 0, 0, ErrShort},
		{full(9, 128), 0, 0, ErrShort},

		{full(9, 255, 2), 0, 0, ErrOver},
		{full(9, 128, 2), 0, 0, ErrOver},
		{full(9, 128, 127), 0, 0, ErrOver},
		{full(9, 128, 128), 0, 0, ErrOver},
		{full(9, 128, 129, 0), 0, 0, ErrOver},
		{full(10, 128, 0), 0, 0, ErrOver},
		{full(40, 255), 0, 0, ErrOver},

		{[]byte{128, 0}, 0, 0, ErrZero},
		{[]byte{255, 0, 1}, 0, 0, ErrZero},
		{[]byte{172, 130, 0}, 0, 0, ErrZero},
		{full(9, 255, 0), 0, 0, ErrZero},
		{full(9, 128, 0), 0, 0, ErrZero},
	} {
		if x, n, e := Read(c.b); x != c.x || n != c.n || e != c.e {
			t.Errorf("Read(%v) = %d %d %d, not %d %d %d", c.b, x, n, e, c.x, c.n, c.e)
		}
	}
}

// Every row of up to three of these bytes, after each number of bytes that go on.
func TestReadByDefinition(t *testing.T) {
	some := []byte{0, 1, 2, 3, 64, 126, 127, 128, 129, 130, 192, 254, 255}
	var rows [][]byte
	for _, a := range some {
		rows = append(rows, []byte{a})
		for _, b := range some {
			rows = append(rows, []byte{a, b})
			for _, c := range some {
				rows = append(rows, []byte{a, b, c})
			}
		}
	}
	for n := range 12 {
		for _, c := range []byte{128, 170, 255} {
			for _, row := range rows {
				b := full(n, c, row...)
				x, size, e := Read(b)
				if wx, ws, we := define(b); x != wx || size != ws || e != we {
					t.Fatalf("Read(%v) = %d %d %d, not %d %d %d", b, x, size, e, wx, ws, we)
				}
			}
		}
	}
}

// P1.3: many forms.

func TestListsOfNumbers(t *testing.T) {
	for _, c := range []struct {
		l []uint64
		b []byte
	}{
		{nil, nil},
		{[]uint64{}, []byte{}},
		{[]uint64{0}, []byte{0}},
		{[]uint64{0, 0, 0}, []byte{0, 0, 0}},
		{[]uint64{0, 127, 128, 300}, []byte{0, 127, 128, 1, 172, 2}},
		{[]uint64{1<<64 - 1, 0, 1<<64 - 1}, append(full(9, 255, 1, 0), full(9, 255, 1)...)},
	} {
		if b := WriteAll(c.l); !bytes.Equal(b, c.b) {
			t.Errorf("WriteAll(%v) = %v, not %v", c.l, b, c.b)
		}
		if l, e := ReadAll(c.b); !slices.Equal(l, c.l) || e != api.OK {
			t.Errorf("ReadAll(%v) = %v %d, not %v", c.b, l, e, c.l)
		}
	}
}

func TestListsOfManyNumbers(t *testing.T) {
	l := many()
	var want []byte
	for _, x := range l {
		want = append(want, form(x)...)
	}
	b := WriteAll(l)
	if !bytes.Equal(b, want) {
		t.Error("WriteAll does not write the forms one after the other")
	}
	if got, e := ReadAll(b); !slices.Equal(got, l) || e != api.OK {
		t.Error("ReadAll does not read what WriteAll wrote", e)
	}
}

func TestReadAllReturnsTheFirstError(t *testing.T) {
	for _, c := range []struct {
		b []byte
		e api.Errno
	}{
		{[]byte{128}, ErrShort},
		{[]byte{5, 128}, ErrShort},
		{[]byte{5, 6, 7, 255, 255}, ErrShort},
		{full(9, 255), ErrShort},
		{[]byte{128, 0}, ErrZero},
		{[]byte{5, 128, 0, 128}, ErrZero},
		{append([]byte{1, 129, 0}, full(9, 255, 2)...), ErrZero},
		{full(9, 255, 2), ErrOver},
		{append([]byte{172, 2}, full(9, 255, 2, 128, 0)...), ErrOver},
		{append([]byte{0}, full(9, 255, 2, 128)...), ErrOver},
	} {
		if l, e := ReadAll(c.b); len(l) != 0 || e != c.e {
			t.Errorf("ReadAll(%v) = %v %d, not %d", c.b, l, e, c.e)
		}
	}
}

// P1.4: zigzag numbers.

func TestZigzag(t *testing.T) {
	for _, c := range []struct {
		n int64
		x uint64
	}{
		{0, 0}, {-1, 1}, {1, 2}, {-2, 3}, {2, 4}, {-64, 127}, {64, 128},
		{1<<62 - 1, 1<<63 - 2}, {-1 << 62, 1<<63 - 1}, {1 << 62, 1 << 63},
		{1<<63 - 1, 1<<64 - 2}, {-1<<63 + 1, 1<<64 - 3}, {-1 << 63, 1<<64 - 1},
	} {
		if x := Zigzag(c.n); x != c.x {
			t.Errorf("Zigzag(%d) = %d, not %d", c.n, x, c.x)
		}
		if n := Unzigzag(c.x); n != c.n {
			t.Errorf("Unzigzag(%d) = %d, not %d", c.x, n, c.n)
		}
	}
}

func TestZigzagByDefinition(t *testing.T) {
	for _, y := range many() {
		n := int64(y)
		want := new(big.Int).Mul(big.NewInt(2), big.NewInt(n))
		if n < 0 {
			want.Neg(want).Sub(want, big.NewInt(1))
		}
		if x := Zigzag(n); x != want.Uint64() || Unzigzag(x) != n {
			t.Errorf("Zigzag(%d) = %d, not %v; back: %d", n, x, want, Unzigzag(x))
		}
		if x := Zigzag(Unzigzag(y)); x != y {
			t.Errorf("the zigzag number of Unzigzag(%d) is %d", y, x)
		}
	}
}

// P1.5: consequences.

func TestWrittenIsReadBack(t *testing.T) {
	for _, x := range many() {
		for _, more := range [][]byte{nil, {0}, {128}, {255, 255}} {
			b := append(Write(x), more...)
			if got, n, e := Read(b); got != x || n != Size(x) || e != api.OK {
				t.Errorf("Read(%v) = %d %d %d, not %d", b, got, n, e, x)
			}
		}
	}
}

func TestReadIsWrittenAsTheSameBytes(t *testing.T) {
	for i := range 1 << 16 {
		for _, b := range [][]byte{{byte(i), byte(i >> 8)}, full(8, 170, byte(i), byte(i>>8))} {
			x, n, e := Read(b)
			if e == api.OK && !bytes.Equal(Write(x), b[:n]) {
				t.Fatalf("Read(%v) = %d, which is written as %v", b, x, Write(x))
			}
			l, e := ReadAll(b)
			if e == api.OK && !bytes.Equal(WriteAll(l), b) {
				t.Fatalf("ReadAll(%v) = %v, which is written as %v", b, l, WriteAll(l))
			}
		}
	}
}

func TestNoFormIsTheBeginningOfAnother(t *testing.T) {
	l := borders()
	for _, x := range l {
		b := Write(x)
		for n := range len(b) {
			if y, size, e := Read(b[:n]); y != 0 || size != 0 || e != ErrShort {
				t.Errorf("Read(%v) = %d %d %d, the beginning of the form of %d", b[:n], y, size, e, x)
			}
		}
		for _, y := range l {
			if x != y && bytes.HasPrefix(Write(y), b) {
				t.Errorf("the form of %d begins with that of %d", y, x)
			}
		}
	}
}

func TestGreaterNumbersAreNotSmaller(t *testing.T) {
	l := many()
	slices.Sort(l)
	for i := 1; i < len(l); i++ {
		if Size(l[i-1]) > Size(l[i]) {
			t.Errorf("Size(%d) = %d, Size(%d) = %d", l[i-1], Size(l[i-1]), l[i], Size(l[i]))
		}
	}
}

func TestZigzagNumbersNearZeroAreSmall(t *testing.T) {
	for n := int64(1); n < 10000; n++ {
		if Zigzag(n) > 2*uint64(n) || Zigzag(-n) > 2*uint64(n) || Zigzag(n) <= Zigzag(-n) || Zigzag(-n) <= Zigzag(n-1) {
			t.Error(n, Zigzag(-n), Zigzag(n))
		}
	}
}

// Arguments are not modified, nor their spare capacity, and results share no memory with them, or with one another.

func TestArgumentsStayAsTheyAre(t *testing.T) {
	room := append(full(9, 255, 1, 172, 2), 1, 2, 3)
	old := slices.Clone(room)
	b := room[:12:14]
	Read(b)
	l, e := ReadAll(b)
	if e != api.OK || len(l) != 2 {
		t.Fatal(l, e)
	}
	if !bytes.Equal(room, old) {
		t.Error("reading modified the bytes", room)
	}
	clear(room)
	if !slices.Equal(l, []uint64{1<<64 - 1, 300}) {
		t.Error("the numbers share memory with the bytes", l)
	}
	numbers := []uint64{300, 5, 7, 9}
	first := WriteAll(numbers[:2])
	if !slices.Equal(numbers, []uint64{300, 5, 7, 9}) {
		t.Error("writing modified the numbers", numbers)
	}
	second := WriteAll(numbers[:2])
	clear(first[:cap(first)])
	if !bytes.Equal(second, []byte{172, 2, 5}) {
		t.Error("two results share memory", second)
	}
	one := Write(300)
	two := Write(300)
	clear(one[:cap(one)])
	if !bytes.Equal(two, []byte{172, 2}) {
		t.Error("two results share memory", two)
	}
}
