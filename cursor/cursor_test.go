package cursor

import (
	"bytes"
	"encoding/binary"
	"math"
	"math/big"
	"slices"
	"testing"

	"quantum/api"
	"quantum/varint"
)

// The whole state of a reader as its exported methods show it.
func wantReader(t *testing.T, what any, r *Reader, at, left int) {
	t.Helper()
	end := ErrRest
	if left == 0 {
		end = api.OK
	}
	if r.At() != at || r.Left() != left || r.End() != end {
		t.Errorf("%v: At %d, Left %d, End %d, not %d, %d, %d", what, r.At(), r.Left(), r.End(), at, left, end)
	}
}

func wantWriter(t *testing.T, what any, w *Writer, out []byte) {
	t.Helper()
	if w.Len() != len(out) || !bytes.Equal(w.Out(), out) {
		t.Errorf("%v: Len %d, Out %v, not %v", what, w.Len(), w.Out(), out)
	}
}

func newWriter(t *testing.T, limit int) *Writer {
	t.Helper()
	w, e := NewWriter(limit)
	if w == nil || e != api.OK {
		t.Fatalf("NewWriter(%d) = %v %d", limit, w, e)
	}
	return w
}

// full returns n bytes of the value c, and those of tail.
func full(n int, c byte, tail ...byte) []byte {
	return append(bytes.Repeat([]byte{c}, n), tail...)
}

// dice yields a row of numbers that looks random but is always the same.
type dice uint64

func (d *dice) next() uint64 {
	*d ^= *d << 13
	*d ^= *d >> 7
	*d ^= *d << 17
	return uint64(*d)
}

func (d *dice) below(n int) int { return int(d.next() % uint64(n)) }

// any of all lengths.
func (d *dice) number() uint64 { return d.next() >> d.below(64) }

func (d *dice) bytes(n int) []byte {
	b := make([]byte, n)
	for i := range b {
		b[i] = byte(d.next())
		if d.below(3) == 0 { // often what forms are made of
			b[i] = []byte{0, 1, 2, 127, 128, 129, 255}[d.below(7)]
		}
	}
	return b
}

func TestConstants(t *testing.T) {
	if MaxLimit != 16777216 || ErrEnd != 20 || ErrMost != 21 || ErrRest != 22 {
		t.Error(MaxLimit, ErrEnd, ErrMost, ErrRest)
	}
}

// The chapter's examples.

func TestExampleOfAReader(t *testing.T) {
	r := NewReader([]byte{1, 172, 2, 7, 0, 9})
	if x, e := r.Byte(); x != 1 || e != api.OK {
		t.Error(x, e)
	}
	if x, e := r.Number(299); x != 0 || e != ErrMost {
		t.Error(x, e)
	}
	wantReader(t, "ErrMost", r, 1, 5)
	if x, e := r.Number(300); x != 300 || e != api.OK {
		t.Error(x, e)
	}
	if x, e := r.Fixed(2); x != 7 || e != api.OK {
		t.Error(x, e)
	}
	if n, e := r.Count(10, 1); n != 0 || e != ErrEnd {
		t.Error(n, e)
	}
	wantReader(t, "ErrEnd", r, 5, 1)
	if x, e := r.Byte(); x != 9 || e != api.OK {
		t.Error(x, e)
	}
	if x, e := r.Byte(); x != 0 || e != ErrEnd {
		t.Error(x, e)
	}
	if e := r.End(); e != api.OK {
		t.Error(e)
	}
}

func TestExampleOfAWriter(t *testing.T) {
	w := newWriter(t, 3)
	for i, e := range []api.Errno{w.Number(300), w.Byte(5)} {
		if e != api.OK {
			t.Error(i, e)
		}
	}
	if e := w.Byte(6); e != api.ErrFull {
		t.Error(e)
	}
	wantWriter(t, "example", w, []byte{172, 2, 5})
	if e := newWriter(t, 3).Fixed(256, 1); e != api.ErrArg {
		t.Error(e)
	}
}

// P2.1: a reader, its place, and what is left.

func TestNewReader(t *testing.T) {
	for n := range 40 {
		r := NewReader(full(n, 7))
		for i := range n {
			wantReader(t, i, r, i, n-i)
			if x, e := r.Byte(); x != 7 || e != api.OK {
				t.Error(n, i, x, e)
			}
		}
		wantReader(t, n, r, n, 0)
	}
	for _, b := range [][]byte{nil, {}} {
		r := NewReader(b)
		if r == nil {
			t.Fatal("no reader of no bytes")
		}
		wantReader(t, "no bytes", r, 0, 0)
	}
}

// P2.2: bytes and fixed numbers.

func TestByte(t *testing.T) {
	all := make([]byte, 256)
	for i := range all {
		all[i] = byte(i)
	}
	r := NewReader(all)
	for i := range all {
		if x, e := r.Byte(); x != byte(i) || e != api.OK {
			t.Error(i, x, e)
		}
	}
	for range 3 {
		if x, e := r.Byte(); x != 0 || e != ErrEnd {
			t.Error(x, e)
		}
		wantReader(t, "at the end", r, 256, 0)
	}
}

func TestBytes(t *testing.T) {
	r := NewReader([]byte{5, 6, 7, 8, 9})
	for _, c := range []struct {
		n        int
		b        []byte
		e        api.Errno
		at, left int
	}{
		{-1, nil, api.ErrArg, 0, 5},
		{math.MinInt, nil, api.ErrArg, 0, 5},
		{0, nil, api.OK, 0, 5},
		{6, nil, ErrEnd, 0, 5},
		{math.MaxInt, nil, ErrEnd, 0, 5},
		{2, []byte{5, 6}, api.OK, 2, 3},
		{4, nil, ErrEnd, 2, 3},
		{math.MaxInt, nil, ErrEnd, 2, 3},
		{3, []byte{7, 8, 9}, api.OK, 5, 0},
		{0, nil, api.OK, 5, 0},
		{1, nil, ErrEnd, 5, 0},
		{-1, nil, api.ErrArg, 5, 0},
	} {
		if b, e := r.Bytes(c.n); !bytes.Equal(b, c.b) || e != c.e {
			t.Errorf("Bytes(%d) = %v %d, not %v %d", c.n, b, e, c.b, c.e)
		}
		wantReader(t, c.n, r, c.at, c.left)
	}
}

func TestFixed(t *testing.T) {
	b := []byte{1, 2, 3, 4, 5, 6, 7, 255, 9, 10}
	for n := 1; n <= 8; n++ {
		for at := range b {
			for _, size := range []int{at, at + n - 1, at + n, len(b)} {
				if size < at || size > len(b) {
					continue
				}
				r := NewReader(b[:size])
				r.Bytes(at)
				x, e := r.Fixed(n)
				if size < at+n {
					if x != 0 || e != ErrEnd {
						t.Errorf("Fixed(%d) of %v = %d %d", n, b[at:size], x, e)
					}
					wantReader(t, n, r, at, size-at)
					continue
				}
				var eight [8]byte
				copy(eight[:], b[at:at+n])
				if want := binary.LittleEndian.Uint64(eight[:]); x != want || e != api.OK {
					t.Errorf("Fixed(%d) of %v = %d %d, not %d", n, b[at:size], x, e, want)
				}
				wantReader(t, n, r, at+n, size-at-n)
			}
		}
	}
	r := NewReader(full(8, 255))
	if x, e := r.Fixed(8); x != 1<<64-1 || e != api.OK {
		t.Error(x, e)
	}
}

func TestFixedArguments(t *testing.T) {
	for _, b := range [][]byte{nil, full(20, 1)} {
		for _, n := range []int{0, -1, 9, 10, -8, math.MaxInt, math.MinInt, 1 << 32, 1<<32 + 1} {
			r := NewReader(b)
			if x, e := r.Fixed(n); x != 0 || e != api.ErrArg {
				t.Errorf("Fixed(%d) of %d bytes = %d %d", n, len(b), x, e)
			}
			wantReader(t, n, r, 0, len(b))
		}
	}
}

// P2.3: numbers and counts.

func TestNumber(t *testing.T) {
	const most = 1<<64 - 1
	for _, c := range []struct {
		b    []byte
		most uint64
		x    uint64
		e    api.Errno
		at   int
	}{
		{[]byte{0}, 0, 0, api.OK, 1},
		{[]byte{1}, 0, 0, ErrMost, 0},
		{[]byte{172, 2, 7}, 300, 300, api.OK, 2},
		{[]byte{172, 2, 7}, 301, 300, api.OK, 2},
		{[]byte{172, 2, 7}, most, 300, api.OK, 2},
		{[]byte{172, 2, 7}, 299, 0, ErrMost, 0},
		{[]byte{172, 2, 7}, 0, 0, ErrMost, 0},
		{full(9, 255, 1, 0), most, 1<<64 - 1, api.OK, 10},
		{full(9, 255, 1), most - 1, 0, ErrMost, 0},
		{full(9, 255, 1), 1<<63 - 1, 0, ErrMost, 0},
		{full(9, 128, 1), 1 << 63, 1 << 63, api.OK, 10},
		{nil, most, 0, varint.ErrShort, 0},
		{nil, 0, 0, varint.ErrShort, 0},
		{[]byte{128}, most, 0, varint.ErrShort, 0},
		{[]byte{255, 255}, 0, 0, varint.ErrShort, 0},
		{full(9, 255, 2), most, 0, varint.ErrOver, 0},
		{full(9, 255, 2), 0, 0, varint.ErrOver, 0},
		{[]byte{128, 0}, most, 0, varint.ErrZero, 0},
		{[]byte{255, 0, 1}, 0, 0, varint.ErrZero, 0},
	} {
		for _, before := range [][]byte{nil, {128}, {1, 2, 3}} {
			r := NewReader(slices.Concat(before, c.b))
			r.Bytes(len(before))
			if x, e := r.Number(c.most); x != c.x || e != c.e {
				t.Errorf("Number(%d) of %v = %d %d, not %d %d", c.most, c.b, x, e, c.x, c.e)
			}
			wantReader(t, c.b, r, len(before)+c.at, len(c.b)-c.at)
		}
	}
}

func TestCount(t *testing.T) {
	for _, c := range []struct {
		b          []byte
		most, size int
		n          int
		e          api.Errno
		at         int
	}{
		{[]byte{0}, 0, 1, 0, api.OK, 1},
		{[]byte{0}, 9, math.MaxInt, 0, api.OK, 1},
		{[]byte{0, 5}, 9, 2, 0, api.OK, 1},
		{[]byte{1, 5}, 9, 1, 1, api.OK, 1},
		{[]byte{1, 5}, 9, 2, 0, ErrEnd, 0},
		{[]byte{1}, 9, 1, 0, ErrEnd, 0},
		{full(6, 3), 3, 1, 3, api.OK, 1},
		{full(6, 3), 2, 1, 0, ErrMost, 0},
		{full(6, 3), 3, 2, 0, ErrEnd, 0},
		{full(7, 3), 3, 2, 3, api.OK, 1},
		{full(9, 3), 3, 3, 0, ErrEnd, 0},
		{full(10, 3), 3, 3, 3, api.OK, 1},
		{full(11, 3), math.MaxInt, 3, 3, api.OK, 1},
		// Products that are above all integers, or that would be 0 or small if they were cut to 64 bits.
		{[]byte{4, 1}, 9, 1 << 62, 0, ErrEnd, 0},
		{[]byte{2, 1}, 9, 1 << 62, 0, ErrEnd, 0},
		{[]byte{2, 1}, 9, math.MaxInt, 0, ErrEnd, 0},
		{[]byte{3, 1}, 9, math.MaxInt, 0, ErrEnd, 0},
		{append(varint.Write(1<<62), 1), math.MaxInt, 4, 0, ErrEnd, 0},
		{append(varint.Write(math.MaxInt), 1), math.MaxInt, math.MaxInt, 0, ErrEnd, 0},
		{append(varint.Write(math.MaxInt), full(30, 0)...), math.MaxInt, 1, 0, ErrEnd, 0},
		{append(varint.Write(1<<63), 1), math.MaxInt, 2, 0, ErrMost, 0},
		{full(9, 255, 1, 1), math.MaxInt, 1, 0, ErrMost, 0},
		{nil, 0, 1, 0, varint.ErrShort, 0},
		{[]byte{128}, 9, 1, 0, varint.ErrShort, 0},
		{full(9, 255, 2), 0, 9, 0, varint.ErrOver, 0},
		{[]byte{128, 0}, 0, 9, 0, varint.ErrZero, 0},
		// ErrMost before ErrEnd, and ErrArg before everything.
		{[]byte{200, 1}, 199, 1, 0, ErrMost, 0},
		{[]byte{200, 1}, 200, 1, 0, ErrEnd, 0},
		{[]byte{0}, -1, 1, 0, api.ErrArg, 0},
		{[]byte{0}, 1, 0, 0, api.ErrArg, 0},
		{[]byte{0}, 1, -1, 0, api.ErrArg, 0},
		{nil, math.MinInt, 1, 0, api.ErrArg, 0},
		{nil, 0, math.MinInt, 0, api.ErrArg, 0},
		{[]byte{128, 0}, -1, -1, 0, api.ErrArg, 0},
		{[]byte{9}, -1, 1, 0, api.ErrArg, 0},
	} {
		for _, before := range [][]byte{nil, {128}, full(50, 1)} {
			r := NewReader(slices.Concat(before, c.b))
			r.Bytes(len(before))
			if n, e := r.Count(c.most, c.size); n != c.n || e != c.e {
				t.Errorf("Count(%d, %d) of %v = %d %d, not %d %d", c.most, c.size, c.b, n, e, c.n, c.e)
			}
			wantReader(t, c.b, r, len(before)+c.at, len(c.b)-c.at)
		}
	}
}

// countByDefinition is what the chapter says of Count, with a product without bounds; the number is -1 with an error.
func countByDefinition(b []byte, most, size int) (int, int, api.Errno) {
	if most < 0 || size < 1 {
		return -1, 0, api.ErrArg
	}
	x, used, e := varint.Read(b)
	if e != api.OK {
		return -1, 0, e
	}
	number := new(big.Int).SetUint64(x)
	if number.Cmp(big.NewInt(int64(most))) > 0 {
		return -1, 0, ErrMost
	}
	if number.Mul(number, big.NewInt(int64(size))).Cmp(big.NewInt(int64(len(b)-used))) > 0 {
		return -1, 0, ErrEnd
	}
	return int(x), used, api.OK
}

func TestCountByDefinition(t *testing.T) {
	d := dice(362436069)
	sizes := []int{math.MinInt, -1, 0, 1, 2, 3, 7, 40, 1 << 31, 1 << 32, 1 << 61, 1 << 62, 1<<62 + 1, math.MaxInt - 1, math.MaxInt}
	for range 100000 {
		b := d.bytes(d.below(12))
		if d.below(2) == 0 {
			b = append(varint.Write(d.number()), d.bytes(d.below(60))...)
		}
		most, size := int(d.number()), d.below(9)
		if d.below(2) == 0 {
			size = sizes[d.below(len(sizes))]
		}
		r := NewReader(b)
		n, e := r.Count(most, size)
		want, used, we := countByDefinition(b, most, size)
		if n != max(want, 0) || e != we {
			t.Fatalf("Count(%d, %d) of %v = %d %d, not %d %d", most, size, b, n, e, want, we)
		}
		wantReader(t, b, r, used, len(b)-used)
	}
}

// P2.4: a writer, how many bytes were written, and these.

func TestNewWriter(t *testing.T) {
	for _, limit := range []int{0, 1, 2, 255, 4096, MaxLimit - 1, MaxLimit} {
		wantWriter(t, limit, newWriter(t, limit), nil)
	}
	for _, limit := range []int{-1, MaxLimit + 1, -MaxLimit, 1 << 32, math.MaxInt, math.MinInt} {
		if w, e := NewWriter(limit); w != nil || e != api.ErrArg {
			t.Errorf("NewWriter(%d) = %v %d", limit, w, e)
		}
	}
}

// P2.5: what is written, and that it is never more than the limit.

func TestEachWayToWrite(t *testing.T) {
	for _, c := range []struct {
		name string
		do   func(w *Writer) api.Errno
		b    []byte
	}{
		{"Byte(0)", func(w *Writer) api.Errno { return w.Byte(0) }, []byte{0}},
		{"Byte(255)", func(w *Writer) api.Errno { return w.Byte(255) }, []byte{255}},
		{"Bytes(nil)", func(w *Writer) api.Errno { return w.Bytes(nil) }, nil},
		{"Bytes of none", func(w *Writer) api.Errno { return w.Bytes([]byte{}) }, nil},
		{"Bytes of 5", func(w *Writer) api.Errno { return w.Bytes([]byte{9, 0, 255, 8, 7}) }, []byte{9, 0, 255, 8, 7}},
		{"Fixed(0, 1)", func(w *Writer) api.Errno { return w.Fixed(0, 1) }, []byte{0}},
		{"Fixed(255, 1)", func(w *Writer) api.Errno { return w.Fixed(255, 1) }, []byte{255}},
		{"Fixed(7, 2)", func(w *Writer) api.Errno { return w.Fixed(7, 2) }, []byte{7, 0}},
		{"Fixed(.., 3)", func(w *Writer) api.Errno { return w.Fixed(0x030201, 3) }, []byte{1, 2, 3}},
		{"Fixed(0, 8)", func(w *Writer) api.Errno { return w.Fixed(0, 8) }, full(8, 0)},
		{"Fixed(.., 8)", func(w *Writer) api.Errno { return w.Fixed(0x0807060504030201, 8) }, []byte{1, 2, 3, 4, 5, 6, 7, 8}},
		{"Fixed(2^64-1, 8)", func(w *Writer) api.Errno { return w.Fixed(1<<64-1, 8) }, full(8, 255)},
		{"Number(0)", func(w *Writer) api.Errno { return w.Number(0) }, []byte{0}},
		{"Number(300)", func(w *Writer) api.Errno { return w.Number(300) }, []byte{172, 2}},
		{"Number(2^64-1)", func(w *Writer) api.Errno { return w.Number(1<<64 - 1) }, full(9, 255, 1)},
	} {
		for before := range 4 {
			for room := range 13 {
				w := newWriter(t, before+room)
				w.Bytes(full(before, 77))
				want, we := full(before, 77, c.b...), api.OK
				if len(c.b) > room {
					want, we = full(before, 77), api.ErrFull
				}
				if e := c.do(w); e != we {
					t.Errorf("%s with room for %d: %d, not %d", c.name, room, e, we)
				}
				wantWriter(t, c.name, w, want)
			}
		}
	}
}

func TestFixedNumbersThatAreTooGreat(t *testing.T) {
	for n := 1; n <= 8; n++ {
		great := uint64(1)<<(8*n) - 1 // 256^n - 1, also for n = 8
		w := newWriter(t, 8)
		if e := w.Fixed(great, n); e != api.OK {
			t.Errorf("Fixed(%d, %d): %d", great, n, e)
		}
		wantWriter(t, n, w, full(n, 255))
		if n == 8 {
			continue
		}
		for _, x := range []uint64{great + 1, great + 2, 1 << 63, 1<<64 - 1} {
			for _, limit := range []int{0, n - 1, n, 20} { // ErrArg before ErrFull
				w := newWriter(t, limit)
				if e := w.Fixed(x, n); e != api.ErrArg {
					t.Errorf("Fixed(%d, %d): %d", x, n, e)
				}
				wantWriter(t, n, w, nil)
			}
		}
	}
	for _, n := range []int{0, -1, 9, 16, -8, math.MaxInt, math.MinInt, 1 << 32, 1<<32 + 1, 1 << 61} {
		for _, x := range []uint64{0, 1, 1<<64 - 1} {
			for _, limit := range []int{0, 20} {
				w := newWriter(t, limit)
				if e := w.Fixed(x, n); e != api.ErrArg {
					t.Errorf("Fixed(%d, %d): %d", x, n, e)
				}
				wantWriter(t, n, w, nil)
			}
		}
	}
}

func TestTheGreatestLimit(t *testing.T) {
	w := newWriter(t, MaxLimit)
	if e := w.Bytes(make([]byte, MaxLimit+1)); e != api.ErrFull || w.Len() != 0 {
		t.Error(e, w.Len())
	}
	if e := w.Bytes(full(MaxLimit-1, 5)); e != api.OK || w.Len() != MaxLimit-1 {
		t.Error(e, w.Len())
	}
	if e := w.Number(300); e != api.ErrFull {
		t.Error(e)
	}
	if e := w.Byte(9); e != api.OK || w.Len() != MaxLimit {
		t.Error(e, w.Len())
	}
	if e := w.Byte(9); e != api.ErrFull {
		t.Error(e)
	}
	if e := w.Bytes(nil); e != api.OK {
		t.Error(e)
	}
	if !bytes.Equal(w.Out(), full(MaxLimit-1, 5, 9)) {
		t.Error("not what was written")
	}
}

// P2.6: what is written is taken back by the same calls, and then nothing is left.

// piece is one call of a writer and the same one of a reader.
type piece struct {
	kind, n int
	x       uint64
	b       []byte
}

func (p piece) write(w *Writer) api.Errno {
	switch p.kind {
	case 0:
		return w.Byte(byte(p.x))
	case 1:
		return w.Bytes(p.b)
	case 2:
		return w.Fixed(p.x, p.n)
	}
	return w.Number(p.x)
}

func (p piece) taken(r *Reader) bool {
	switch p.kind {
	case 0:
		x, e := r.Byte()
		return x == byte(p.x) && e == api.OK
	case 1:
		b, e := r.Bytes(len(p.b))
		return bytes.Equal(b, p.b) && e == api.OK
	case 2:
		x, e := r.Fixed(p.n)
		return x == p.x && e == api.OK
	}
	x, e := r.Number(p.x)
	return x == p.x && e == api.OK
}

func (d *dice) piece() piece {
	p := piece{kind: d.below(4), n: 1 + d.below(8)}
	switch p.kind {
	case 0:
		p.x = d.next() & 255
	case 1:
		p.b = d.bytes(d.below(20))
	case 2:
		p.x = d.next() >> (64 - 8*p.n)
	default:
		p.x = d.number()
	}
	return p
}

func TestWrittenIsTakenBack(t *testing.T) {
	d := dice(521288629)
	for round := range 2000 {
		limit := d.below(200)
		w := newWriter(t, limit)
		var kept []piece
		for range d.below(40) {
			p, before := d.piece(), w.Out()
			if e := p.write(w); e == api.OK {
				kept = append(kept, p)
			} else if e != api.ErrFull || !bytes.Equal(w.Out(), before) {
				t.Fatal(round, p, e)
			}
			if w.Len() > limit {
				t.Fatal(round, "more bytes than the limit")
			}
		}
		out := w.Out()
		r := NewReader(out)
		for i, p := range kept {
			if !p.taken(r) {
				t.Fatal(round, i, p)
			}
		}
		wantReader(t, round, r, len(out), 0)
	}
}

// Any call of a reader either has an error and changes nothing, or takes just the bytes that the result is made of.
func TestAnythingIsTakenWholeOrNotAtAll(t *testing.T) {
	d := dice(88675123)
	for range 20000 {
		b := d.bytes(d.below(30))
		r, at := NewReader(b), 0
		for range 12 {
			var used int
			var e, we api.Errno
			rest := b[at:]
			switch n := d.below(14) - 2; d.below(4) {
			case 0:
				var x byte
				if x, e = r.Byte(); len(rest) == 0 {
					we = ErrEnd
				} else if used = 1; x != rest[0] {
					t.Fatal(b, at, x)
				}
			case 1:
				var l []byte
				if l, e = r.Bytes(n); n < 0 {
					we = api.ErrArg
				} else if n > len(rest) {
					we = ErrEnd
				} else if used = n; !bytes.Equal(l, rest[:n]) {
					t.Fatal(b, at, l)
				}
			case 2:
				var x uint64
				if x, e = r.Fixed(n); n < 1 || n > 8 {
					we = api.ErrArg
				} else if n > len(rest) {
					we = ErrEnd
				} else if used = n; x != binary.LittleEndian.Uint64(append(slices.Clone(rest[:n]), full(8, 0)...)) {
					t.Fatal(b, at, x)
				}
			default:
				most := d.number()
				x, e2 := r.Number(most)
				e = e2
				want, size, e3 := varint.Read(rest)
				if we = e3; we == api.OK && want > most {
					we = ErrMost
				} else if used = size; x != want {
					t.Fatal(b, at, x, want)
				}
			}
			at += used
			if e != we {
				t.Fatal(b, at, e, we)
			}
			wantReader(t, b, r, at, len(b)-at)
		}
	}
}

// R8: a nil pointer and a zero value are no objects.

func TestNoReader(t *testing.T) {
	for _, r := range []*Reader{nil, {}, new(Reader)} {
		if r.At() != 0 || r.Left() != 0 {
			t.Error(r.At(), r.Left())
		}
		if x, e := r.Byte(); x != 0 || e != api.ErrNil {
			t.Error(x, e)
		}
		for _, n := range []int{-1, 0, 1, 8, 9} {
			if b, e := r.Bytes(n); len(b) != 0 || e != api.ErrNil {
				t.Error(n, b, e)
			}
			if x, e := r.Fixed(n); x != 0 || e != api.ErrNil {
				t.Error(n, x, e)
			}
			if c, e := r.Count(n, n); c != 0 || e != api.ErrNil {
				t.Error(n, c, e)
			}
		}
		if x, e := r.Number(0); x != 0 || e != api.ErrNil {
			t.Error(x, e)
		}
		if e := r.End(); e != api.ErrNil {
			t.Error(e)
		}
	}
}

func TestNoWriter(t *testing.T) {
	for _, w := range []*Writer{nil, {}, new(Writer)} {
		for i, e := range []api.Errno{w.Byte(1), w.Bytes(nil), w.Bytes([]byte{1}), w.Fixed(1, 1), w.Fixed(256, 1), w.Fixed(0, 0), w.Number(1)} {
			if e != api.ErrNil {
				t.Error(i, e)
			}
		}
		wantWriter(t, "no writer", w, nil)
	}
}

// Arguments are neither modified nor kept, and results share no memory with anything.

func TestReadersShareNoMemory(t *testing.T) {
	room := []byte{1, 2, 3, 4, 5, 99, 98}
	arg := room[:5]
	r, other := NewReader(arg), NewReader(arg)
	first, e := r.Bytes(2)
	if e != api.OK || !bytes.Equal(room, []byte{1, 2, 3, 4, 5, 99, 98}) {
		t.Error("the bytes were modified", e, room)
	}
	clear(room)
	clear(first[:cap(first)])
	if b, e := r.Bytes(3); !bytes.Equal(b, []byte{3, 4, 5}) || e != api.OK {
		t.Error("the reader shares memory with an argument, or a result", b, e)
	}
	if b, e := other.Bytes(5); !bytes.Equal(b, []byte{1, 2, 3, 4, 5}) || e != api.OK {
		t.Error("two readers share memory, or a place", b, e)
	}
}

func TestWritersShareNoMemory(t *testing.T) {
	w, other := newWriter(t, 100), newWriter(t, 100)
	room := []byte{1, 2, 3, 9, 8}
	arg := room[:3]
	w.Bytes(arg)
	w.Bytes(arg)
	w.Byte(4)
	other.Byte(7)
	if !bytes.Equal(room, []byte{1, 2, 3, 9, 8}) {
		t.Error("the bytes were modified", room)
	}
	clear(room)
	first, second := w.Out(), w.Out()
	clear(first[:cap(first)])
	w.Byte(5)
	if !bytes.Equal(second, []byte{1, 2, 3, 1, 2, 3, 4}) {
		t.Error("two results share memory", second)
	}
	wantWriter(t, "w", w, []byte{1, 2, 3, 1, 2, 3, 4, 5})
	wantWriter(t, "other", other, []byte{7})
}
