package codec

import (
	"encoding/binary"
	"math"
	"math/rand/v2"
	"slices"
	"testing"

	"quantum/api"
	"quantum/event"
	"quantum/varint"
)

// The greatest numbers, written out again.
const (
	mostSeq  = 281474976710656
	mostTime = 281474976710656
)

// newDice throws the same numbers in every run.
func newDice() *rand.Rand { return rand.New(rand.NewPCG(7, 33)) }

// The definitions of the chapter, written out again. That an event is right is what package event says.

func rightBase(b Base) bool {
	return 1 <= b.Seq && b.Seq <= mostSeq && 0 <= b.Time && b.Time <= mostTime
}

func behind(e event.Event, b Base) bool { return e.Seq >= b.Seq && e.Time >= b.Time }

func base(e event.Event) Base { return Base{e.Seq, e.Time} }

// places are the fields of the kind of an event, but for the mask, in their order.
func places(e *event.Event) []*int {
	switch e.Kind {
	case 1:
		return []*int{&e.Task, &e.Group, &e.Weight}
	case 2:
		return []*int{&e.Task}
	case 5:
		return []*int{&e.Ticks, &e.Got}
	case 7:
		return []*int{&e.Task, &e.Weight}
	case 8:
		return []*int{&e.Group, &e.Weight}
	case 9:
		return []*int{&e.Task, &e.To}
	case 3, 4, 6, 10:
		return []*int{&e.Got}
	}
	return nil
}

// record answers the record of a right event that is behind a right base.
func record(b Base, e event.Event) []byte {
	r := []byte{e.Kind}
	r = binary.AppendUvarint(r, uint64(e.Seq-b.Seq))
	r = binary.AppendUvarint(r, uint64(e.Time-b.Time))
	for _, p := range places(&e) {
		r = binary.AppendUvarint(r, uint64(*p))
	}
	if e.Kind == 1 {
		r = binary.AppendUvarint(r, e.Mask)
	}
	return r
}

// putByDefinition answers what Put has to.
func putByDefinition(b Base, e event.Event) ([]byte, api.Errno) {
	if err := event.Check(e); err != api.OK {
		return nil, err
	}
	if !rightBase(b) || !behind(e, b) {
		return nil, ErrBase
	}
	return record(b, e), api.OK
}

// takeByDefinition answers what Take has to: it looks for the event whose record the bytes begin with.
func takeByDefinition(b Base, cpu uint8, l []byte) (event.Event, int, api.Errno) {
	if !rightBase(b) {
		return event.Event{}, 0, ErrBase
	}
	if len(l) == 0 {
		return event.Event{}, 0, varint.ErrShort
	}
	e := event.Event{Cpu: cpu, Kind: l[0]}
	if e.Kind < 1 || e.Kind > 10 {
		return event.Event{}, 0, event.ErrKind
	}
	var seq, time int
	n := 1
	take := func() (uint64, api.Errno) {
		x, k, err := varint.Read(l[n:])
		n += k
		return x, err
	}
	for _, p := range append([]*int{&seq, &time}, places(&e)...) {
		x, err := take()
		if err != api.OK {
			return event.Event{}, 0, err
		}
		*p = int(x)
	}
	if e.Kind == 1 {
		x, err := take()
		if err != api.OK {
			return event.Event{}, 0, err
		}
		e.Mask = x
	}
	e.Seq, e.Time = b.Seq+seq, b.Time+time
	if r, err := putByDefinition(b, e); err != api.OK || !slices.Equal(r, l[:n]) {
		return event.Event{}, 0, event.ErrField
	}
	return e, n, api.OK
}

// rowByDefinition answers what Row has to.
func rowByDefinition(l []event.Event) (int, api.Errno) {
	for i, e := range l {
		if err := event.Check(e); err != api.OK {
			return i, err
		}
		if i == 0 {
			continue
		}
		if o := l[i-1]; e.Cpu != o.Cpu || e.Seq <= o.Seq || e.Time < o.Time {
			return i, ErrRow
		}
	}
	return -1, api.OK
}

// writeByDefinition answers what Write has to.
func writeByDefinition(b Base, l []event.Event) ([]byte, api.Errno) {
	if _, err := rowByDefinition(l); err != api.OK {
		return nil, err
	}
	if !rightBase(b) || len(l) > 0 && !behind(l[0], b) {
		return nil, ErrBase
	}
	var all []byte
	for i, e := range l {
		if i > 0 {
			b = base(l[i-1])
		}
		all = append(all, record(b, e)...)
	}
	return all, api.OK
}

// readByDefinition answers what Read has to.
func readByDefinition(b Base, cpu uint8, n int, all []byte) ([]event.Event, int, api.Errno) {
	if n < 0 {
		return nil, 0, api.ErrArg
	}
	if !rightBase(b) {
		return nil, 0, ErrBase
	}
	var l []event.Event
	at := 0
	for i := 0; i < n; i++ {
		e, k, err := takeByDefinition(b, cpu, all[at:])
		if err != api.OK {
			return nil, 0, err
		}
		if i > 0 && e.Seq == b.Seq {
			return nil, 0, ErrRow
		}
		l = append(l, e)
		at += k
		b = base(e)
	}
	return l, at, api.OK
}

// Comparisons with the definitions; each answers the error.

func checkPut(t *testing.T, b Base, e event.Event) api.Errno {
	t.Helper()
	want, wantErr := putByDefinition(b, e)
	if r, err := Put(b, e); !slices.Equal(r, want) || err != wantErr {
		t.Errorf("Put(%v, %+v) = %v %d, not %v %d", b, e, r, err, want, wantErr)
	}
	if n, err := Size(b, e); n != len(want) || err != wantErr {
		t.Errorf("Size(%v, %+v) = %d %d, not %d %d", b, e, n, err, len(want), wantErr)
	}
	return wantErr
}

func checkTake(t *testing.T, b Base, cpu uint8, l []byte) api.Errno {
	t.Helper()
	want, wantN, wantErr := takeByDefinition(b, cpu, l)
	if e, n, err := Take(b, cpu, l); e != want || n != wantN || err != wantErr {
		t.Errorf("Take(%v, %d, %v) = %+v %d %d, not %+v %d %d", b, cpu, l, e, n, err, want, wantN, wantErr)
	}
	return wantErr
}

func checkRow(t *testing.T, l []event.Event) api.Errno {
	t.Helper()
	want, wantErr := rowByDefinition(l)
	if i, err := Row(l); i != want || err != wantErr {
		t.Errorf("Row(%+v) = %d %d, not %d %d", l, i, err, want, wantErr)
	}
	return wantErr
}

func checkWrite(t *testing.T, b Base, l []event.Event) api.Errno {
	t.Helper()
	want, wantErr := writeByDefinition(b, l)
	if all, err := Write(b, l); !slices.Equal(all, want) || err != wantErr {
		t.Errorf("Write(%v, %+v) = %v %d, not %v %d", b, l, all, err, want, wantErr)
	}
	return wantErr
}

func checkRead(t *testing.T, b Base, cpu uint8, n int, all []byte) api.Errno {
	t.Helper()
	want, wantN, wantErr := readByDefinition(b, cpu, n, all)
	if l, k, err := Read(b, cpu, n, all); !slices.Equal(l, want) || k != wantN || err != wantErr {
		t.Errorf("Read(%v, %d, %d, %v) = %+v %d %d, not %+v %d %d", b, cpu, n, all, l, k, err, want, wantN, wantErr)
	}
	return wantErr
}

// counts tells how often each error was seen.
type counts map[api.Errno]int

// need fails unless each of some errors was seen.
func (c counts) need(t *testing.T, errs ...api.Errno) {
	t.Helper()
	for _, err := range errs {
		if c[err] == 0 {
			t.Errorf("the error %d was never seen", err)
		}
	}
}

// Events, bases and rows to ask for.

// plain are right events of the CPU 2, one of each kind; they are a row.
func plain() []event.Event {
	return []event.Event{
		{Seq: 3, Time: 0, Cpu: 2, Kind: 1, Task: 7, Group: 0, Weight: 1024, Mask: 255},
		{Seq: 4, Time: 300, Cpu: 2, Kind: 2, Task: 300},
		{Seq: 5, Time: 300, Cpu: 2, Kind: 3, Got: 8},
		{Seq: 7, Time: 301, Cpu: 2, Kind: 4, Got: 9},
		{Seq: 200, Time: 340, Cpu: 2, Kind: 5, Ticks: 40, Got: 7},
		{Seq: 201, Time: 340, Cpu: 2, Kind: 6, Got: 0},
		{Seq: 20000, Time: 20000, Cpu: 2, Kind: 7, Task: 3, Weight: 2048},
		{Seq: 20001, Time: 20001, Cpu: 2, Kind: 8, Group: 4, Weight: 3},
		{Seq: 20002, Time: 1 << 40, Cpu: 2, Kind: 9, Task: 6, To: 1},
		{Seq: 1 << 47, Time: 1 << 47, Cpu: 2, Kind: 10, Got: 65535},
	}
}

// longest are the right events of all kinds with the longest records.
func longest() []event.Event {
	const s, m = mostSeq, mostTime
	return []event.Event{
		{Seq: s, Time: m, Cpu: 63, Kind: 1, Task: 65535, Group: 255, Weight: 65536, Mask: math.MaxUint64},
		{Seq: s, Time: m, Cpu: 63, Kind: 2, Task: 65535},
		{Seq: s, Time: m, Cpu: 63, Kind: 3, Got: 65535},
		{Seq: s, Time: m, Cpu: 63, Kind: 4, Got: 65535},
		{Seq: s, Time: m, Cpu: 63, Kind: 5, Ticks: 4294967295, Got: 65535},
		{Seq: s, Time: m, Cpu: 63, Kind: 6, Got: 65535},
		{Seq: s, Time: m, Cpu: 63, Kind: 7, Task: 65535, Weight: 65536},
		{Seq: s, Time: m, Cpu: 63, Kind: 8, Group: 255, Weight: 65536},
		{Seq: s, Time: m, Cpu: 63, Kind: 9, Task: 65535, To: 62},
		{Seq: s, Time: m, Cpu: 63, Kind: 10, Got: 65535},
	}
}

// some answers a number from 1 to most, small or great.
func some(d *rand.Rand, most int) int { return 1 + d.IntN(most)>>d.IntN(49) }

// anyEvent answers a right event.
func anyEvent(d *rand.Rand, cpu uint8) event.Event {
	e := event.Event{Seq: some(d, mostSeq), Time: some(d, mostTime) - 1, Cpu: cpu, Kind: uint8(1 + d.IntN(10))}
	for _, p := range places(&e) {
		switch p {
		case &e.Group:
			*p = some(d, 255)
		case &e.Weight:
			*p = some(d, 65536)
		case &e.Ticks:
			*p = some(d, 1<<32-1)
		case &e.To:
			*p = (int(cpu) + 1 + d.IntN(63)) % 64
		default:
			*p = some(d, 65535)
		}
	}
	if e.Kind == 1 {
		e.Mask = d.Uint64()>>d.IntN(64) | 1<<cpu
	}
	return e
}

// rights are right events of all kinds, on all CPUs.
func rights() []event.Event {
	l := append(plain(), longest()...)
	d := newDice()
	for i := range 3000 {
		l = append(l, anyEvent(d, uint8(i%64)))
	}
	return l
}

// anyRow answers a row of n events.
func anyRow(d *rand.Rand, cpu uint8, n int) []event.Event {
	l := make([]event.Event, n)
	seq, time := some(d, 1<<40), some(d, 1<<40)-1
	for i := range l {
		l[i] = anyEvent(d, cpu)
		l[i].Seq, l[i].Time = seq, time
		seq += some(d, 1<<30)
		time += some(d, 1<<30) - 1
	}
	return l
}

// rows are rows of no event, of one, and of many.
func rows() [][]event.Event {
	d := newDice()
	l := [][]event.Event{nil, {}, plain()}
	for _, e := range append(plain(), longest()...) {
		l = append(l, []event.Event{e})
	}
	for n := range 60 {
		l = append(l, anyRow(d, uint8(d.IntN(64)), n))
	}
	return append(l, anyRow(d, 63, 5000))
}

// basesOf are right bases that an event is behind: at their limits, beside the event, and others.
func basesOf(e event.Event) []Base {
	return []Base{
		{1, 0}, {e.Seq, e.Time}, {1, e.Time}, {e.Seq, 0}, {max(e.Seq-1, 1), e.Time}, {e.Seq, max(e.Time-1, 0)},
		{max(e.Seq-127, 1), max(e.Time-128, 0)}, {max(e.Seq-128, 1), max(e.Time-127, 0)}, {1 + e.Seq/2, e.Time / 2}, {max(e.Seq-16384, 1), max(e.Time-300, 0)},
	}
}

// wrongBases are not right.
func wrongBases() []Base {
	return []Base{
		{0, 0}, {-1, 0}, {math.MinInt, 0}, {mostSeq + 1, 0}, {math.MaxInt, 0}, {1 << 62, 0},
		{1, -1}, {1, math.MinInt}, {1, mostTime + 1}, {1, math.MaxInt}, {mostSeq, mostTime + 1}, {0, mostTime},
		{}, {0, -1}, {-1, -1}, {math.MinInt, math.MaxInt}, {math.MaxInt, math.MinInt},
	}
}

// wrongEvents are not right, each in another way, with each error of event.Check.
func wrongEvents() []event.Event {
	var l []event.Event
	for _, p := range plain() {
		for _, change := range []func(e *event.Event){
			func(e *event.Event) { e.Kind = 0 }, func(e *event.Event) { e.Kind = 11 }, func(e *event.Event) { e.Kind = 255 },
			func(e *event.Event) { e.Kind, e.Seq, e.Got = 0, 0, -1 }, func(e *event.Event) { *e = event.Event{} },
			func(e *event.Event) { e.Seq = 0 }, func(e *event.Event) { e.Seq = -1 }, func(e *event.Event) { e.Seq = mostSeq + 1 }, func(e *event.Event) { e.Seq = math.MinInt },
			func(e *event.Event) { e.Time = -1 }, func(e *event.Event) { e.Time = mostTime + 1 }, func(e *event.Event) { e.Time = math.MaxInt },
			func(e *event.Event) { e.Cpu = 64 }, func(e *event.Event) { e.Cpu = 255 },
			func(e *event.Event) { *places(e)[0] = -1 }, func(e *event.Event) { *places(e)[0] = 1 << 48 }, func(e *event.Event) { e.Seq, e.Mask = 0, 1 },
			func(e *event.Event) { e.Task, e.Got = 5, 5 }, func(e *event.Event) { e.Ticks, e.Weight = 5, 5 }, func(e *event.Event) { e.Got, e.Ticks = -5, 1 },
		} {
			e := p
			change(&e)
			if event.Check(e) != api.OK {
				l = append(l, e)
			}
		}
	}
	return l
}

func TestConstants(t *testing.T) {
	if MaxRecord != 33 || ErrBase != 70 || ErrRow != 71 {
		t.Error(MaxRecord, ErrBase, ErrRow)
	}
}

// The chapter's examples.

var (
	spawn = event.Event{Seq: 1, Time: 0, Cpu: 2, Kind: api.KindSpawn, Task: 7, Group: 0, Weight: 1024, Mask: 255}
	tick  = event.Event{Seq: 5, Time: 340, Cpu: 2, Kind: api.KindTick, Ticks: 40, Got: 7}
)

func TestExamplesOfRecords(t *testing.T) {
	for _, c := range []struct {
		b    Base
		e    event.Event
		want []byte
		err  api.Errno
	}{
		{Base{1, 0}, spawn, []byte{1, 0, 0, 7, 0, 128, 8, 255, 1}, api.OK},
		{Base{3, 300}, tick, []byte{5, 2, 40, 40, 7}, api.OK},
		{Base{3, 0}, tick, []byte{5, 2, 212, 2, 40, 7}, api.OK},
		{Base{6, 0}, tick, nil, ErrBase},
	} {
		if r, err := Put(c.b, c.e); !slices.Equal(r, c.want) || err != c.err {
			t.Errorf("Put(%v, %+v) = %v %d", c.b, c.e, r, err)
		}
		if n, err := Size(c.b, c.e); n != len(c.want) || err != c.err {
			t.Errorf("Size(%v, %+v) = %d %d", c.b, c.e, n, err)
		}
	}
}

func TestExamplesOfTake(t *testing.T) {
	for _, c := range []struct {
		cpu uint8
		l   []byte
		e   event.Event
		n   int
		err api.Errno
	}{
		{2, []byte{5, 2, 40, 40, 7, 9}, tick, 5, api.OK},
		{2, nil, event.Event{}, 0, varint.ErrShort},
		{2, []byte{5, 2, 40}, event.Event{}, 0, varint.ErrShort},
		{2, []byte{0}, event.Event{}, 0, event.ErrKind},
		{2, []byte{5, 2, 40, 0, 7}, event.Event{}, 0, event.ErrField},
		{64, []byte{5, 2, 40, 40, 7, 9}, event.Event{}, 0, event.ErrField},
	} {
		if e, n, err := Take(Base{3, 300}, c.cpu, c.l); e != c.e || n != c.n || err != c.err {
			t.Errorf("Take(%v) = %+v %d %d", c.l, e, n, err)
		}
	}
}

func TestExamplesOfRows(t *testing.T) {
	both := []event.Event{spawn, tick}
	want := []byte{1, 0, 0, 7, 0, 128, 8, 255, 1, 5, 4, 212, 2, 40, 7}
	if all, err := Write(Base{1, 0}, both); !slices.Equal(all, want) || err != api.OK {
		t.Error(all, err)
	}
	if l, n, err := Read(Base{1, 0}, 2, 2, want); !slices.Equal(l, both) || n != 15 || err != api.OK {
		t.Error(l, n, err)
	}
	if l, n, err := Read(Base{1, 0}, 0, 2, []byte{6, 0, 0, 0, 6, 0, 0, 0}); len(l) != 0 || n != 0 || err != ErrRow {
		t.Error(l, n, err)
	}
}

// P7.1: records.

func TestRecordsOfPlainEvents(t *testing.T) {
	// The records of the row against the base 1, 0.
	b := Base{1, 0}
	for i, want := range [][]byte{
		{1, 2, 0, 7, 0, 128, 8, 255, 1}, {2, 1, 172, 2, 172, 2}, {3, 1, 0, 8}, {4, 2, 1, 9}, {5, 193, 1, 39, 40, 7}, {6, 1, 0, 0},
		{7, 215, 154, 1, 204, 153, 1, 3, 128, 16}, {8, 1, 1, 4, 3}, {9, 1, 223, 227, 254, 255, 255, 31, 6, 1},
		{10, 222, 227, 254, 255, 255, 255, 31, 128, 128, 128, 128, 128, 224, 31, 255, 255, 3},
	} {
		e := plain()[i]
		if r, err := Put(b, e); !slices.Equal(r, want) || err != api.OK {
			t.Errorf("Put(%v, %+v) = %v %d, not %v", b, e, r, err, want)
		}
		b = base(e)
	}
}

func TestRecordsByDefinition(t *testing.T) {
	for _, e := range rights() {
		for _, b := range basesOf(e) {
			if checkPut(t, b, e) != api.OK {
				t.Fatalf("%+v is not behind %v", e, b)
			}
		}
	}
}

func TestTheCpuIsNotInARecord(t *testing.T) {
	e := event.Event{Seq: 9, Time: 9, Kind: 6, Got: 1}
	for cpu := range uint8(64) {
		e.Cpu = cpu
		if r, err := Put(Base{1, 0}, e); !slices.Equal(r, []byte{6, 8, 9, 1}) || err != api.OK {
			t.Errorf("cpu %d: %v %d", cpu, r, err)
		}
	}
}

func TestPutBesideTheBase(t *testing.T) {
	for _, e := range append(plain(), longest()...) {
		for s := -1; s <= 1; s++ {
			for m := -1; m <= 1; m++ {
				b := Base{e.Seq + s, e.Time + m}
				err := checkPut(t, b, e)
				if isWrong := s > 0 || m > 0 || b.Time < 0; isWrong != (err == ErrBase) {
					t.Errorf("Put(%v, %+v): %d", b, e, err)
				}
			}
		}
		// Far behind the event in one number, and only a little before it in the other one.
		for _, b := range []Base{{mostSeq, 0}, {e.Seq + 1, 0}, {1, e.Time + 1}, {1, mostTime}, {mostSeq, mostTime}} {
			checkPut(t, b, e)
		}
	}
}

func TestPutAtTheLimitsOfBases(t *testing.T) {
	for _, c := range []struct {
		b    Base
		seq  int
		time int
		want []byte
		err  api.Errno
	}{
		{Base{1, 0}, 1, 0, []byte{6, 0, 0, 3}, api.OK},
		{Base{mostSeq, mostTime}, mostSeq, mostTime, []byte{6, 0, 0, 3}, api.OK},
		{Base{mostSeq, 0}, mostSeq, 1, []byte{6, 0, 1, 3}, api.OK},
		{Base{1, mostTime}, 2, mostTime, []byte{6, 1, 0, 3}, api.OK},
		{Base{1, 0}, mostSeq, mostTime, []byte{6, 255, 255, 255, 255, 255, 255, 63, 128, 128, 128, 128, 128, 128, 64, 3}, api.OK},
		{Base{mostSeq, mostTime}, mostSeq - 1, mostTime, nil, ErrBase},
		{Base{mostSeq, mostTime}, mostSeq, mostTime - 1, nil, ErrBase},
		{Base{0, 0}, 1, 0, nil, ErrBase},
		{Base{1, -1}, 1, 0, nil, ErrBase},
		{Base{mostSeq + 1, 0}, mostSeq, 0, nil, ErrBase},
		{Base{1, mostTime + 1}, 1, mostTime, nil, ErrBase},
	} {
		e := event.Event{Seq: c.seq, Time: c.time, Kind: 6, Got: 3}
		if r, err := Put(c.b, e); !slices.Equal(r, c.want) || err != c.err {
			t.Errorf("Put(%v, %+v) = %v %d", c.b, e, r, err)
		}
		checkPut(t, c.b, e)
	}
}

func TestPutWithWrongBases(t *testing.T) {
	for _, b := range wrongBases() {
		for _, e := range append(plain(), longest()...) {
			if err := checkPut(t, b, e); err != ErrBase {
				t.Errorf("%v, %+v: %d", b, e, err)
			}
		}
	}
}

func TestPutOfWrongEvents(t *testing.T) {
	seen := counts{}
	for _, e := range wrongEvents() {
		// What is wrong with the event comes before what is wrong with the base.
		for _, b := range append(wrongBases(), Base{1, 0}, Base{2, 3}, Base{mostSeq, mostTime}) {
			err := checkPut(t, b, e)
			if err != event.Check(e) {
				t.Errorf("Put(%v, %+v): %d, not %d", b, e, err, event.Check(e))
			}
			seen[err]++
		}
	}
	seen.need(t, event.ErrKind, event.ErrField, event.ErrOther)
}

// P7.2: to take a record.

func TestTakeWhatWasPut(t *testing.T) {
	for _, e := range rights() {
		for _, b := range basesOf(e) {
			r := record(b, e)
			for _, behind := range [][]byte{nil, {0}, {128}, {255, 255}, slices.Repeat([]byte{255}, 40), r} {
				if got, n, err := Take(b, e.Cpu, append(slices.Clone(r), behind...)); got != e || n != len(r) || err != api.OK {
					t.Errorf("Take(%v, %d, %v and %v) = %+v %d %d", b, e.Cpu, r, behind, got, n, err)
				}
			}
		}
	}
}

func TestTakeOfBytesThatEndInARecord(t *testing.T) {
	for _, e := range append(plain(), longest()...) {
		for _, b := range basesOf(e) {
			r := record(b, e)
			for k := range r {
				for _, cpu := range []uint8{e.Cpu, 64, 255} {
					if got, n, err := Take(b, cpu, r[:k]); got != (event.Event{}) || n != 0 || err != varint.ErrShort {
						t.Errorf("Take(%v, %d, %v) = %+v %d %d", b, cpu, r[:k], got, n, err)
					}
				}
			}
		}
	}
}

func TestTakeOfFirstBytes(t *testing.T) {
	for k := range 256 {
		for _, behind := range [][]byte{nil, {0, 0, 1}, {1, 1, 1, 1}, {128, 0}, slices.Repeat([]byte{255}, 12)} {
			for _, cpu := range []uint8{0, 64} {
				err := checkTake(t, Base{1, 0}, cpu, append([]byte{byte(k)}, behind...))
				if (err == event.ErrKind) != (k < 1 || k > 10) {
					t.Errorf("kind %d: %d", k, err)
				}
			}
		}
	}
}

func TestTakeWithWrongBases(t *testing.T) {
	tooLong := append([]byte{6}, slices.Repeat([]byte{255}, 12)...)
	for _, b := range wrongBases() {
		for _, l := range [][]byte{nil, {0}, {11}, {6}, {6, 0}, {6, 0, 0}, {6, 0, 0, 0}, {6, 1, 1, 1}, {6, 128, 0}, {5, 2, 40, 0, 7}, tooLong} {
			for _, cpu := range []uint8{0, 64} {
				if e, n, err := Take(b, cpu, l); e != (event.Event{}) || n != 0 || err != ErrBase {
					t.Errorf("Take(%v, %d, %v) = %+v %d %d", b, cpu, l, e, n, err)
				}
			}
		}
	}
}

func TestTakeWithEachCpu(t *testing.T) {
	for _, e := range plain() {
		if e.Kind == 1 {
			e.Mask = math.MaxUint64
		}
		b := Base{1, 0}
		for cpu := range 256 {
			want, wantErr := e, api.OK
			want.Cpu = uint8(cpu)
			if cpu > 63 || e.Kind == 9 && cpu == e.To {
				want, wantErr = event.Event{}, event.ErrField
			}
			if got, _, err := Take(b, uint8(cpu), record(b, e)); got != want || err != wantErr {
				t.Errorf("cpu %d: %+v %d, not %+v %d", cpu, got, err, want, wantErr)
			}
		}
	}
	// The mask must have the bit of the CPU that Take is told.
	for cpu := range uint8(64) {
		for bit := range 64 {
			err := checkTake(t, Base{1, 0}, cpu, binary.AppendUvarint([]byte{1, 0, 0, 7, 0, 1}, 1<<bit))
			if (err == api.OK) != (int(cpu) == bit) {
				t.Errorf("cpu %d, mask 2^%d: %d", cpu, bit, err)
			}
		}
	}
}

// numbers are values at, beside and far from all limits, and beyond those of an int; those of sums with a base, too.
func numbers() []uint64 {
	l := []uint64{0, 1, 2, 3, 4, 5, 7, 62, 63, 64, 127, 128, 254, 255, 256, 257, 65534, 65535, 65536, 65537, 65543}
	for _, k := range []int{31, 32, 33, 47, 48, 49, 62, 63} {
		x := uint64(1) << k
		l = append(l, x-2, x-1, x, x+1, x+2, x+7)
	}
	for x := range uint64(10) {
		l = append(l, math.MaxUint64-x, math.MaxUint64-mostSeq+x, math.MaxUint64-mostSeq-x, 1<<63|x<<8)
	}
	return l
}

// recordOf answers the bytes of a kind, and of any numbers.
func recordOf(kind uint8, l []uint64) []byte {
	r := []byte{kind}
	for _, x := range l {
		r = binary.AppendUvarint(r, x)
	}
	return r
}

// numbersOf answers the numbers of a record.
func numbersOf(t *testing.T, b Base, e event.Event) []uint64 {
	t.Helper()
	l, err := varint.ReadAll(record(b, e)[1:])
	if err != api.OK {
		t.Fatal(err)
	}
	return l
}

func TestTakeOfEachNumber(t *testing.T) {
	seen := counts{}
	bases := []Base{{1, 0}, {1, 1}, {2, 3}, {3, 300}, {1 << 47, 1 << 47}, {mostSeq - 1, mostTime - 1}, {mostSeq, mostTime}, {mostSeq, 0}, {1, mostTime}}
	for _, e := range plain() {
		for i, old := range numbersOf(t, base(e), e) {
			for _, x := range append(numbers(), old) {
				l := numbersOf(t, base(e), e)
				l[i] = x
				for _, b := range bases {
					for _, cpu := range []uint8{2, 1, 0, 63, 64} {
						seen[checkTake(t, b, cpu, recordOf(e.Kind, l))]++
					}
				}
			}
		}
	}
	seen.need(t, api.OK, event.ErrField)
}

func TestTakeAtTheLimitsOfFields(t *testing.T) {
	for _, c := range []struct {
		kind    uint8
		numbers []uint64
		want    api.Errno
	}{
		{1, []uint64{0, 0, 1, 0, 1, 4}, api.OK}, {1, []uint64{0, 0, 0, 0, 1, 4}, event.ErrField}, {1, []uint64{0, 0, 65535, 255, 65536, 4}, api.OK}, {1, []uint64{0, 0, 65536, 0, 1, 4}, event.ErrField},
		{1, []uint64{0, 0, 1, 256, 1, 4}, event.ErrField}, {1, []uint64{0, 0, 1, 0, 0, 4}, event.ErrField}, {1, []uint64{0, 0, 1, 0, 65537, 4}, event.ErrField}, {1, []uint64{0, 0, 1, 0, 1, 3}, event.ErrField}, {1, []uint64{0, 0, 1, 0, 1, 0}, event.ErrField}, {1, []uint64{0, 0, 1, 0, 1, math.MaxUint64}, api.OK},
		{2, []uint64{0, 0, 0}, event.ErrField}, {2, []uint64{0, 0, 1}, api.OK}, {2, []uint64{0, 0, 65536}, event.ErrField},
		{3, []uint64{0, 0, 0}, event.ErrField}, {3, []uint64{0, 0, 1}, api.OK}, {4, []uint64{0, 0, 0}, event.ErrField}, {4, []uint64{0, 0, 65535}, api.OK},
		{5, []uint64{0, 0, 1, 0}, api.OK}, {5, []uint64{0, 0, 0, 1}, event.ErrField}, {5, []uint64{0, 0, 1<<32 - 1, 65535}, api.OK}, {5, []uint64{0, 0, 1 << 32, 1}, event.ErrField}, {5, []uint64{0, 0, 1, 65536}, event.ErrField},
		{6, []uint64{0, 0, 0}, api.OK}, {6, []uint64{0, 0, 65536}, event.ErrField}, {7, []uint64{0, 0, 1, 1}, api.OK}, {7, []uint64{0, 0, 1, 0}, event.ErrField},
		{8, []uint64{0, 0, 1, 1}, api.OK}, {8, []uint64{0, 0, 0, 1}, event.ErrField}, {9, []uint64{0, 0, 1, 63}, api.OK}, {9, []uint64{0, 0, 1, 64}, event.ErrField}, {9, []uint64{0, 0, 1, 2}, event.ErrField},
		{10, []uint64{0, 0, 0}, event.ErrField}, {10, []uint64{0, 0, 65535}, api.OK},
		{2, []uint64{0, 0, 1 << 63}, event.ErrField}, {2, []uint64{0, 0, 1<<63 | 1}, event.ErrField}, {2, []uint64{0, 0, math.MaxUint64}, event.ErrField}, {2, []uint64{0, 0, 1<<32 | 1}, event.ErrField},
	} {
		l := recordOf(c.kind, c.numbers)
		if e, n, err := Take(Base{1, 0}, 2, l); err != c.want || (n == len(l)) != (err == api.OK) || (e == event.Event{}) != (err != api.OK) {
			t.Errorf("%d %v: %+v %d %d, not %d", c.kind, c.numbers, e, n, err, c.want)
		}
	}
}

func TestTakeOfSums(t *testing.T) {
	for _, c := range []struct {
		b    Base
		seq  uint64
		time uint64
		want api.Errno
	}{
		{Base{1, 0}, mostSeq - 1, mostTime, api.OK},
		{Base{1, 0}, mostSeq, 0, event.ErrField},
		{Base{1, 0}, 0, mostTime + 1, event.ErrField},
		{Base{5, 7}, mostSeq - 5, mostTime - 7, api.OK},
		{Base{5, 7}, mostSeq - 4, 0, event.ErrField},
		{Base{5, 7}, 0, mostTime - 6, event.ErrField},
		{Base{mostSeq, mostTime}, 0, 0, api.OK},
		{Base{mostSeq, mostTime}, 1, 0, event.ErrField},
		{Base{mostSeq, mostTime}, 0, 1, event.ErrField},
		// Modulo 2^64 these would be right, and less than the base.
		{Base{5, 7}, math.MaxUint64, 0, event.ErrField},
		{Base{5, 7}, math.MaxUint64 - 3, 0, event.ErrField},
		{Base{5, 7}, 0, math.MaxUint64, event.ErrField},
		{Base{5, 7}, 0, math.MaxUint64 - 6, event.ErrField},
		{Base{mostSeq, mostTime}, math.MaxUint64 - 9, math.MaxUint64 - 9, event.ErrField},
		{Base{5, 7}, 1 << 63, 0, event.ErrField},
		{Base{5, 7}, 0, 1 << 63, event.ErrField},
		{Base{5, 7}, 1<<63 - 1, 1<<63 - 1, event.ErrField},
	} {
		l := recordOf(6, []uint64{c.seq, c.time, 0})
		e, n, err := Take(c.b, 2, l)
		if err != c.want || err != api.OK && (e != event.Event{} || n != 0) {
			t.Errorf("Take(%v, %d, %d) = %+v %d %d", c.b, c.seq, c.time, e, n, err)
		}
		if err == api.OK && (n != len(l) || e != event.Event{Seq: c.b.Seq + int(c.seq), Time: c.b.Time + int(c.time), Cpu: 2, Kind: 6}) {
			t.Errorf("Take(%v, %d, %d) = %+v %d", c.b, c.seq, c.time, e, n)
		}
	}
}

// badForms are bytes that are no number, with their errors.
func badForms() []struct {
	l   []byte
	err api.Errno
} {
	return []struct {
		l   []byte
		err api.Errno
	}{
		{[]byte{128, 0}, varint.ErrZero},
		{[]byte{255, 0}, varint.ErrZero},
		{append(slices.Repeat([]byte{128}, 9), 0), varint.ErrZero},
		{append(slices.Repeat([]byte{255}, 9), 2), varint.ErrOver},
		{append(slices.Repeat([]byte{128}, 9), 128, 1), varint.ErrOver},
		{slices.Repeat([]byte{255}, 20), varint.ErrOver},
	}
}

func TestTakeOfFormsThatAreNone(t *testing.T) {
	for _, e := range plain() {
		b := Base{1, 0}
		l := numbersOf(t, b, e)
		for i := range l {
			r := recordOf(e.Kind, l[:i])
			rest := recordOf(0, l[i+1:])[1:]
			for _, bad := range badForms() {
				// Also with a CPU that there is not, and with wrong bytes after it: the first error counts.
				for _, after := range [][]byte{rest, nil, {128, 0}, slices.Repeat([]byte{255}, 12)} {
					for _, cpu := range []uint8{2, 64} {
						all := slices.Concat(r, bad.l, after)
						if got, n, err := Take(b, cpu, all); got != (event.Event{}) || n != 0 || err != bad.err {
							t.Errorf("Take(%v) = %+v %d %d, not %d", all, got, n, err, bad.err)
						}
					}
				}
			}
		}
	}
	// A number beyond its limits is found only behind the errors of all numbers.
	for _, c := range []struct {
		l   []byte
		err api.Errno
	}{
		{[]byte{5, 0, 0, 0, 128, 0}, varint.ErrZero}, {[]byte{5, 0, 0, 0, 128}, varint.ErrShort}, {[]byte{5, 0, 0, 0}, varint.ErrShort},
		{[]byte{5, 255, 255, 255, 255, 255, 255, 255, 255, 255, 1, 0, 1, 128, 0}, varint.ErrZero}, {[]byte{5, 0, 255, 255, 255, 255, 255, 255, 255, 255, 255, 1, 1}, varint.ErrShort},
	} {
		if _, _, err := Take(Base{1, 0}, 2, c.l); err != c.err {
			t.Errorf("Take(%v): %d, not %d", c.l, err, c.err)
		}
	}
}

func TestTakeOfRecordsWithOneByteChanged(t *testing.T) {
	seen := counts{}
	for _, e := range append(plain(), longest()...) {
		for _, b := range []Base{{1, 0}, base(e)} {
			r := append(record(b, e), 1, 0)
			for i := range r {
				for c := range 256 {
					l := slices.Clone(r)
					l[i] = byte(c)
					seen[checkTake(t, b, e.Cpu, l)]++
					seen[checkTake(t, b, e.Cpu, slices.Insert(slices.Clone(r), i, byte(c)))]++
				}
				seen[checkTake(t, b, e.Cpu, slices.Delete(slices.Clone(r), i, i+1))]++
			}
		}
	}
	seen.need(t, api.OK, event.ErrKind, event.ErrField, varint.ErrShort, varint.ErrOver, varint.ErrZero)
}

// allStrings gives all strings of up to n of some bytes to look.
func allStrings(letters []byte, n int, look func(l []byte)) {
	var longer func(l []byte)
	longer = func(l []byte) {
		look(l)
		if len(l) == n {
			return
		}
		for _, c := range letters {
			longer(append(slices.Clip(l), c))
		}
	}
	longer(nil)
}

func TestTakeOfAllShortStrings(t *testing.T) {
	seen := counts{}
	allStrings([]byte{0, 1, 3, 5, 9, 128, 255}, 6, func(l []byte) {
		seen[checkTake(t, Base{2, 3}, 3, l)]++
	})
	seen.need(t, api.OK, event.ErrKind, event.ErrField, varint.ErrShort, varint.ErrZero)
}

// P7.3: rows.

// small are events that may be next to each other in lists: some are not right.
func small() []event.Event {
	var l []event.Event
	for seq := 1; seq <= 3; seq++ {
		for time := range 2 {
			l = append(l, event.Event{Seq: seq, Time: time, Cpu: 1, Kind: 6, Got: seq}, event.Event{Seq: seq, Time: time, Cpu: 2, Kind: 2, Task: 5})
		}
	}
	return append(l, event.Event{}, event.Event{Seq: 2, Time: 1, Cpu: 64, Kind: 6}, event.Event{Seq: 3, Time: 1, Cpu: 1, Kind: 6, Mask: 1})
}

// lists gives all lists of up to n small events to look.
func lists(n int, look func(l []event.Event)) {
	var letters []byte
	for i := range small() {
		letters = append(letters, byte(i))
	}
	events := small()
	allStrings(letters, n, func(s []byte) {
		var l []event.Event
		for _, i := range s {
			l = append(l, events[i])
		}
		look(l)
	})
}

func TestRowOfAllShortLists(t *testing.T) {
	seen := counts{}
	lists(4, func(l []event.Event) { seen[checkRow(t, l)]++ })
	seen.need(t, api.OK, ErrRow, event.ErrKind, event.ErrField, event.ErrOther)
}

func TestWriteOfAllShortLists(t *testing.T) {
	seen := counts{}
	lists(3, func(l []event.Event) {
		for _, b := range []Base{{1, 0}, {2, 0}, {1, 1}, {3, 1}, {4, 0}, {1, 2}, {0, 0}, {1, -1}, {mostSeq + 1, 0}, {1, mostTime + 1}} {
			seen[checkWrite(t, b, l)]++
		}
	})
	seen.need(t, api.OK, ErrBase, ErrRow, event.ErrKind, event.ErrField, event.ErrOther)
}

func TestRowOfRows(t *testing.T) {
	for _, l := range rows() {
		if i, err := Row(l); i != -1 || err != api.OK {
			t.Errorf("Row of %d events: %d %d", len(l), i, err)
		}
	}
}

func TestWriteOfRows(t *testing.T) {
	for _, l := range rows() {
		if len(l) == 0 {
			continue
		}
		for _, b := range basesOf(l[0]) {
			if err := checkWrite(t, b, l); err != api.OK {
				t.Errorf("%d events against %v: %d", len(l), b, err)
			}
		}
	}
}

func TestWriteOfNoEvents(t *testing.T) {
	for _, l := range [][]event.Event{nil, {}} {
		for _, b := range []Base{{1, 0}, {mostSeq, mostTime}, {1, mostTime}, {mostSeq, 0}} {
			if all, err := Write(b, l); len(all) != 0 || err != api.OK {
				t.Errorf("%v: %v %d", b, all, err)
			}
		}
		for _, b := range wrongBases() {
			if all, err := Write(b, l); len(all) != 0 || err != ErrBase {
				t.Errorf("%v: %v %d", b, all, err)
			}
		}
	}
}

func TestRowsThatAreWrongInOnePlace(t *testing.T) {
	d := newDice()
	wrong := wrongEvents()
	for range 20 {
		row := anyRow(d, 2, 12)
		for i := range row {
			changes := map[string]func(e *event.Event){}
			if i > 0 {
				o := row[i-1]
				changes["cpu"] = func(e *event.Event) { *e = event.Event{Seq: e.Seq, Time: e.Time, Cpu: 3, Kind: 6} }
				changes["same"] = func(e *event.Event) { e.Seq = o.Seq }
				changes["less"] = func(e *event.Event) { e.Seq = max(o.Seq-1, 1) }
				changes["one"] = func(e *event.Event) { e.Seq, e.Time = 1, mostTime }
				if o.Time > 0 {
					changes["early"] = func(e *event.Event) { e.Time = o.Time - 1 }
					changes["zero"] = func(e *event.Event) { e.Seq, e.Time = mostSeq, 0 }
				}
			}
			for name, change := range changes {
				l := slices.Clone(row)
				change(&l[i])
				if k, err := Row(l); k != i || err != ErrRow {
					t.Errorf("%s at %d: Row = %d %d", name, i, k, err)
				}
				for _, b := range []Base{{1, 0}, {}, {mostSeq, mostTime}} {
					if err := checkWrite(t, b, l); err != ErrRow {
						t.Errorf("%s at %d: Write: %d", name, i, err)
					}
				}
			}
			l := slices.Clone(row)
			l[i] = wrong[d.IntN(len(wrong))]
			if k, err := Row(l); k != i || err != event.Check(l[i]) {
				t.Errorf("%+v at %d: Row = %d %d", l[i], i, k, err)
			}
			checkWrite(t, Base{1, 0}, l)
			checkWrite(t, Base{}, l)
		}
	}
}

func TestTheFirstErrorOfARow(t *testing.T) {
	good := event.Event{Seq: 5, Time: 5, Cpu: 1, Kind: 6}
	again := good
	for _, bad := range wrongEvents() {
		want := event.Check(bad)
		for _, c := range []struct {
			l   []event.Event
			at  int
			err api.Errno
		}{
			{[]event.Event{bad}, 0, want},
			{[]event.Event{bad, good}, 0, want},
			{[]event.Event{good, bad}, 1, want},
			{[]event.Event{good, again, bad}, 1, ErrRow},
			{[]event.Event{good, bad, again}, 1, want},
			{[]event.Event{bad, good, again}, 0, want},
		} {
			if i, err := Row(c.l); i != c.at || err != c.err {
				t.Errorf("Row(%+v) = %d %d, not %d %d", c.l, i, err, c.at, c.err)
			}
			for _, b := range append(wrongBases(), Base{1, 0}, Base{6, 6}) {
				if all, err := Write(b, c.l); len(all) != 0 || err != c.err {
					t.Errorf("Write(%v, %+v) = %v %d, not %d", b, c.l, all, err, c.err)
				}
			}
		}
	}
}

func TestRowsAtTheirLimits(t *testing.T) {
	for _, c := range []struct {
		seqs, times []int
		at          int
		err         api.Errno
	}{
		{[]int{1, 2, mostSeq}, []int{0, 0, mostTime}, -1, api.OK},
		{[]int{1, mostSeq - 1, mostSeq}, []int{mostTime, mostTime, mostTime}, -1, api.OK},
		{[]int{1, mostSeq, mostSeq}, []int{0, 0, 0}, 2, ErrRow},
		{[]int{1, mostSeq, mostSeq + 1}, []int{0, 0, 0}, 2, event.ErrField},
		{[]int{1, mostSeq, 1}, []int{0, 0, 0}, 2, ErrRow},
		{[]int{1, 2, 3}, []int{0, mostTime, mostTime - 1}, 2, ErrRow},
		{[]int{1, 2, 3}, []int{0, mostTime, mostTime + 1}, 2, event.ErrField},
		{[]int{3, 2, 1}, []int{0, 0, 0}, 1, ErrRow},
		{[]int{1, 3, 2}, []int{0, 0, 0}, 2, ErrRow},
		{[]int{1, 2, 3}, []int{1, 0, 0}, 1, ErrRow},
	} {
		var l []event.Event
		for i := range c.seqs {
			l = append(l, event.Event{Seq: c.seqs[i], Time: c.times[i], Cpu: 63, Kind: 6})
		}
		if i, err := Row(l); i != c.at || err != c.err {
			t.Errorf("%v %v: %d %d, not %d %d", c.seqs, c.times, i, err, c.at, c.err)
		}
		checkWrite(t, Base{1, 0}, l)
	}
}

func TestWriteBesideTheBase(t *testing.T) {
	d := newDice()
	for n := 1; n < 30; n++ {
		l := anyRow(d, 5, n)
		for i := range l {
			l[i].Seq++ // so that there is a right base before the first one
		}
		first := l[0]
		for _, b := range []Base{{first.Seq, first.Time}, {first.Seq - 1, first.Time}} {
			if err := checkWrite(t, b, l); err != api.OK {
				t.Errorf("%v: %d", b, err)
			}
		}
		for _, b := range append(wrongBases(), Base{first.Seq + 1, first.Time}, Base{first.Seq, first.Time + 1}, Base{1, first.Time + 1}, Base{first.Seq + 1, 0}, Base{mostSeq, mostTime}) {
			if err := checkWrite(t, b, l); err != ErrBase {
				t.Errorf("%v: %d", b, err)
			}
		}
	}
}

// P7.4: to read rows.

// mustWrite answers the records of a row.
func mustWrite(t *testing.T, b Base, l []event.Event) []byte {
	t.Helper()
	all, err := writeByDefinition(b, l)
	if err != api.OK {
		t.Fatal(err)
	}
	return all
}

func TestReadOfNoRecords(t *testing.T) {
	for _, all := range [][]byte{nil, {}, {0}, {128}, {6, 0, 0, 0}, {6, 0}} {
		for _, cpu := range []uint8{0, 63, 64, 255} {
			for _, b := range []Base{{1, 0}, {mostSeq, mostTime}} {
				if l, n, err := Read(b, cpu, 0, all); len(l) != 0 || n != 0 || err != api.OK {
					t.Errorf("Read(%v, %d, 0, %v) = %v %d %d", b, cpu, all, l, n, err)
				}
			}
			for _, b := range wrongBases() {
				if l, n, err := Read(b, cpu, 0, all); len(l) != 0 || n != 0 || err != ErrBase {
					t.Errorf("Read(%v, %d, 0, %v) = %v %d %d", b, cpu, all, l, n, err)
				}
			}
		}
	}
}

func TestReadWithArgumentsThatAreNotRight(t *testing.T) {
	for _, all := range [][]byte{nil, {0}, {128}, {6, 0, 0, 0}, {6, 0}, {6, 0, 0, 0, 6, 0, 0, 0}} {
		for _, cpu := range []uint8{0, 64} {
			for _, b := range append(wrongBases(), Base{1, 0}) {
				for _, n := range []int{-1, -2, -65536, math.MinInt} {
					if l, k, err := Read(b, cpu, n, all); len(l) != 0 || k != 0 || err != api.ErrArg {
						t.Errorf("Read(%v, %d, %d, %v) = %v %d %d", b, cpu, n, all, l, k, err)
					}
				}
			}
			for _, b := range wrongBases() {
				for _, n := range []int{1, 2, 3, math.MaxInt} {
					if l, k, err := Read(b, cpu, n, all); len(l) != 0 || k != 0 || err != ErrBase {
						t.Errorf("Read(%v, %d, %d, %v) = %v %d %d", b, cpu, n, all, l, k, err)
					}
				}
			}
		}
	}
}

func TestReadOfSomeOfTheRecords(t *testing.T) {
	for _, row := range rows() {
		if len(row) == 0 || len(row) > 100 {
			continue
		}
		for _, b := range basesOf(row[0]) {
			all := mustWrite(t, b, row)
			for _, after := range [][]byte{nil, {0}, {6}, {6, 0, 0, 0}, {128, 128}, {255}} {
				for k := range len(row) + 1 {
					// The bytes behind the k records are not looked at.
					n := len(mustWrite(t, b, row[:k]))
					if l, size, err := Read(b, row[0].Cpu, k, append(slices.Clone(all), after...)); !slices.Equal(l, row[:k]) || size != n || err != api.OK {
						t.Errorf("%d of %d records: %v %d %d", k, len(row), l, size, err)
					}
				}
			}
		}
	}
}

func TestReadOfMoreRecordsThanThereAre(t *testing.T) {
	for _, row := range rows() {
		b := Base{1, 0}
		all := mustWrite(t, b, row)
		cpu := uint8(2)
		if len(row) > 0 {
			cpu = row[0].Cpu
		}
		for _, more := range []int{1, 2, 1 << 40, math.MaxInt - len(row)} {
			if l, n, err := Read(b, cpu, len(row)+more, all); len(l) != 0 || n != 0 || err != varint.ErrShort {
				t.Errorf("%d more than %d records: %v %d %d", more, len(row), l, n, err)
			}
		}
	}
}

func TestReadOfBytesThatEndInARecord(t *testing.T) {
	row := plain()
	all := mustWrite(t, Base{1, 0}, row)
	for k := range all {
		if l, n, err := Read(Base{1, 0}, 2, len(row), all[:k]); len(l) != 0 || n != 0 || err != varint.ErrShort {
			t.Errorf("%d bytes: %v %d %d", k, l, n, err)
		}
		for n := range len(row) + 2 {
			checkRead(t, Base{1, 0}, 2, n, all[:k])
		}
	}
}

func TestReadOfTheSameSeq(t *testing.T) {
	d := newDice()
	for n := 1; n < 12; n++ {
		row := anyRow(d, 7, n)
		for i := 1; i < n; i++ {
			// All others are against the event before them, as in a row.
			var all []byte
			b, end := Base{1, 0}, 0
			for k, e := range row {
				if k == i {
					e.Seq = b.Seq
				}
				all = append(all, record(b, e)...)
				if k == i {
					end = len(all)
				}
				b = base(e)
			}
			for k := range n + 2 {
				// The records after it may be wrong as well, or not be there: that is found later.
				for _, l := range [][]byte{all, all[:end], append(slices.Clone(all[:end]), 0), append(slices.Clone(all[:end]), 6, 128, 0)} {
					err := checkRead(t, Base{1, 0}, 7, k, l)
					if (err == ErrRow) != (k > i) {
						t.Errorf("the record %d of %d has the Seq of the one before it: reading %d, %d", i, n, k, err)
					}
				}
			}
		}
	}
	// The first record may have the Seq of the base.
	want := []event.Event{{Seq: 4, Time: 9, Cpu: 1, Kind: 6}, {Seq: 5, Time: 9, Cpu: 1, Kind: 6}}
	if l, n, err := Read(Base{4, 9}, 1, 2, []byte{6, 0, 0, 0, 6, 1, 0, 0}); !slices.Equal(l, want) || n != 8 || err != api.OK {
		t.Error(l, n, err)
	}
}

func TestReadRecordByRecord(t *testing.T) {
	for _, c := range []struct {
		all []byte
		err api.Errno
	}{
		{[]byte{6, 0, 0, 0, 6, 0, 0, 0}, ErrRow},
		{[]byte{6, 0, 0, 0, 6, 0, 0, 0, 0}, ErrRow},
		{[]byte{6, 0, 0, 0, 6, 0, 0, 0, 128, 0}, ErrRow},
		{[]byte{6, 0, 0, 0, 3, 0, 0, 0}, event.ErrField},
		{[]byte{3, 0, 0, 0, 6, 0, 0, 0}, event.ErrField},
		{[]byte{6, 0, 0, 0, 6, 0, 0}, varint.ErrShort},
		{[]byte{6, 0, 0, 0, 6, 0, 128, 0}, varint.ErrZero},
		{[]byte{6, 0, 0, 0, 0, 0, 0, 0}, event.ErrKind},
		{[]byte{6, 0, 0, 0, 11}, event.ErrKind},
		{[]byte{6, 0, 0, 0}, varint.ErrShort},
		{[]byte{6, 0, 0, 128, 0, 6, 0, 0, 0}, varint.ErrZero},
		{append([]byte{6, 0, 0, 0, 6, 0}, slices.Repeat([]byte{255}, 10)...), varint.ErrOver},
		{[]byte{6, 0, 0, 0, 6, 255, 255, 255, 255, 255, 255, 255, 255, 255, 1, 0, 0}, event.ErrField},
		{[]byte{6, 0, 1, 0, 6, 1, 255, 255, 255, 255, 255, 255, 255, 255, 255, 1, 0}, event.ErrField},
		{[]byte{6, 254, 255, 255, 255, 255, 255, 63, 0, 0, 6, 1, 0, 0}, api.OK},
		{[]byte{6, 255, 255, 255, 255, 255, 255, 63, 0, 0, 6, 1, 0, 0}, event.ErrField},
		{[]byte{6, 0, 128, 128, 128, 128, 128, 128, 64, 0, 6, 1, 0, 0}, api.OK},
		{[]byte{6, 0, 128, 128, 128, 128, 128, 128, 64, 0, 6, 1, 1, 0}, event.ErrField},
	} {
		l, n, err := Read(Base{1, 0}, 3, 2, c.all)
		if err != c.err || err != api.OK && (len(l) != 0 || n != 0) || err == api.OK && (len(l) != 2 || n != len(c.all)) {
			t.Errorf("Read(%v) = %+v %d %d, not %d", c.all, l, n, err, c.err)
		}
		checkRead(t, Base{1, 0}, 3, 2, c.all)
	}
}

func TestReadWithCpusThatThereAreNot(t *testing.T) {
	all := mustWrite(t, Base{1, 0}, plain())
	for cpu := range 256 {
		err := checkRead(t, Base{1, 0}, uint8(cpu), 10, all)
		if cpu > 63 && err != event.ErrField {
			t.Errorf("cpu %d: %d", cpu, err)
		}
	}
}

func TestReadOfRowsWithOneByteChanged(t *testing.T) {
	seen := counts{}
	for _, b := range []Base{{1, 0}, {3, 0}} {
		all := mustWrite(t, b, plain())
		for i := range all {
			for c := range 256 {
				l := slices.Clone(all)
				l[i] = byte(c)
				for _, n := range []int{1, 2, 5, 10} {
					seen[checkRead(t, b, 2, n, l)]++
				}
			}
		}
	}
	seen.need(t, api.OK, ErrRow, event.ErrKind, event.ErrField, varint.ErrShort, varint.ErrZero)
}

func TestReadOfAllShortStrings(t *testing.T) {
	seen := counts{}
	allStrings([]byte{0, 1, 6}, 9, func(l []byte) {
		for n := range 4 {
			seen[checkRead(t, Base{2, 3}, 0, n, l)]++
		}
	})
	seen.need(t, api.OK, ErrRow, event.ErrKind, event.ErrField, varint.ErrShort)
}

// P7.5: consequences.

func TestWhatIsWrittenIsReadBack(t *testing.T) {
	for _, row := range rows() {
		bases := []Base{{1, 0}}
		cpu := uint8(9)
		if len(row) > 0 {
			bases, cpu = basesOf(row[0]), row[0].Cpu
		}
		for _, b := range bases {
			all, err := Write(b, row)
			if err != api.OK {
				t.Fatal(err)
			}
			if l, n, err := Read(b, cpu, len(row), all); !slices.Equal(l, row) || n != len(all) || err != api.OK {
				t.Errorf("%d events against %v are read back as %d, of %d bytes, with the error %d", len(row), b, len(l), n, err)
			}
			// One by one.
			var ones []byte
			at, before := 0, b
			for _, e := range row {
				r, _ := Put(before, e)
				if size, err := Size(before, e); size != len(r) || err != api.OK {
					t.Errorf("%+v: %d %d, not %d bytes", e, size, err, len(r))
				}
				ones = append(ones, r...)
				got, n, err := Take(before, cpu, all[at:])
				if got != e || err != api.OK {
					t.Fatalf("%+v is read back as %+v %d", e, got, err)
				}
				at += n
				before = base(e)
			}
			if !slices.Equal(ones, all) || at != len(all) {
				t.Errorf("the records of %d events are not those of each one", len(row))
			}
		}
	}
}

// checkSame reads one record, and some, and compares what is written of them; it answers whether there were any.
func checkSame(t *testing.T, b Base, cpu uint8, all []byte) bool {
	t.Helper()
	e, n, err := Take(b, cpu, all)
	if err == api.OK {
		if r, err := Put(b, e); !slices.Equal(r, all[:n]) || err != api.OK {
			t.Errorf("%v is written as %v %d", all[:n], r, err)
		}
	}
	for k := range 5 {
		l, n, err := Read(b, cpu, k, all)
		if err != api.OK {
			continue
		}
		if back, err := Write(b, l); !slices.Equal(back, all[:n]) || err != api.OK || len(l) != k {
			t.Errorf("%v, read as %d events, is written as %v %d", all[:n], k, back, err)
		}
	}
	return err == api.OK
}

func TestWhatIsReadIsWrittenAsTheSameBytes(t *testing.T) {
	d := newDice()
	found := 0
	for range 200000 {
		all := make([]byte, d.IntN(24))
		for i := range all {
			// Mostly bytes that are kinds, or that begin or end a longer number.
			all[i] = []byte{byte(1 + d.IntN(10)), byte(d.IntN(4)), byte(d.Uint32()), byte(128 + d.IntN(3)), 0}[d.IntN(5)]
		}
		if checkSame(t, Base{some(d, mostSeq), some(d, mostTime)}, uint8(d.IntN(65)), all) {
			found++
		}
	}
	allStrings([]byte{0, 1, 2, 6, 128}, 7, func(l []byte) {
		if checkSame(t, Base{1, 0}, 0, l) {
			found++
		}
	})
	if found < 10000 {
		t.Errorf("only %d strings have a record", found)
	}
}

func TestRowsHaveOneFormOnly(t *testing.T) {
	// Of all short strings no two are the same rows, unless they differ in what is behind the records.
	for n := range 3 {
		forms := map[[2]event.Event]string{}
		allStrings([]byte{0, 1, 6, 10, 128, 129}, 8, func(all []byte) {
			l, size, err := Read(Base{1, 0}, 1, n, all)
			if err != api.OK {
				return
			}
			var key [2]event.Event
			copy(key[:], l)
			if form, is := forms[key]; is && form != string(all[:size]) {
				t.Errorf("%v and %v are both %+v", []byte(form), all[:size], l)
			}
			forms[key] = string(all[:size])
		})
		if n > 0 && len(forms) < 4 {
			t.Errorf("only %d rows of %d events", len(forms), n)
		}
	}
}

func TestTheLongestRecords(t *testing.T) {
	for i, want := range []int{33, 18, 18, 18, 23, 18, 21, 20, 19, 18} {
		e := longest()[i]
		if n, err := Size(Base{1, 0}, e); n != want || err != api.OK {
			t.Errorf("%+v: %d %d, not %d bytes", e, n, err, want)
		}
		if r, err := Put(Base{1, 0}, e); len(r) != want || err != api.OK {
			t.Errorf("%+v: %v %d, not %d bytes", e, r, err, want)
		}
	}
	want := []byte{
		1, 255, 255, 255, 255, 255, 255, 63, 128, 128, 128, 128, 128, 128, 64,
		255, 255, 3, 255, 1, 128, 128, 4, 255, 255, 255, 255, 255, 255, 255, 255, 255, 1,
	}
	if r, err := Put(Base{1, 0}, longest()[0]); !slices.Equal(r, want) || err != api.OK {
		t.Error(r, err)
	}
	if e, n, err := Take(Base{1, 0}, 63, want); e != longest()[0] || n != MaxRecord || err != api.OK {
		t.Error(e, n, err)
	}
	for _, e := range rights() {
		for _, b := range basesOf(e) {
			if n, _ := Size(b, e); n > MaxRecord || e.Kind != api.KindSpawn && n > 23 {
				t.Errorf("%+v against %v: %d bytes", e, b, n)
			}
		}
	}
}

// Arguments and results.

func TestArgumentsAreNotModified(t *testing.T) {
	for _, row := range rows() {
		if len(row) == 0 || len(row) > 100 {
			continue
		}
		cpu := row[0].Cpu
		events := append(slices.Clone(row), longest()...)
		oldEvents := slices.Clone(events)
		b := Base{1, 0}
		bytes := append(mustWrite(t, b, row), 1, 2, 3, 4, 5)
		oldBytes := slices.Clone(bytes)
		for k := range len(row) + 1 {
			Row(events[:k])
			Write(b, events[:k])
			Read(b, cpu, k, bytes)
			Read(b, cpu, k, bytes[:len(bytes)/2])
			Take(b, cpu, bytes[:len(bytes)-k])
		}
		if !slices.Equal(events, oldEvents) || !slices.Equal(bytes, oldBytes) {
			t.Fatalf("arguments of %d events are modified", len(row))
		}
	}
}

func TestResultsShareNoMemory(t *testing.T) {
	row, b := plain(), Base{1, 0}
	all := mustWrite(t, b, row)
	for range 3 {
		one, _ := Put(b, row[0])
		clear(one[:cap(one)])
		w, _ := Write(b, row)
		clear(w[:cap(w)])
		l, _, _ := Read(b, 2, len(row), all)
		other, _, _ := Read(b, 2, len(row), all)
		clear(l[:cap(l)])
		if r, _ := Put(b, row[0]); !slices.Equal(r, record(b, row[0])) {
			t.Error("Put", r)
		}
		if w, _ := Write(b, row); !slices.Equal(w, all) || !slices.Equal(row, plain()) {
			t.Error("Write", w)
		}
		if !slices.Equal(other, row) {
			t.Error("Read", other)
		}
	}
	l, _, _ := Read(b, 2, len(row), all)
	e, _, _ := Take(b, 2, all)
	clear(all)
	if !slices.Equal(l, row) || e != row[0] {
		t.Error("a result changes with its argument")
	}
}
