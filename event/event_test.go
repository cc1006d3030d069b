package event

import (
	"math"
	"math/rand/v2"
	"regexp"
	"slices"
	"strconv"
	"strings"
	"testing"

	"quantum/api"
)

// newDice throws the same numbers in every run.
func newDice() *rand.Rand { return rand.New(rand.NewPCG(6, 10)) }

// The document's tables, written out again.

type described struct {
	kind   uint8
	name   string
	fields []string
}

var table = []described{
	{1, "spawn", []string{"task", "group", "weight", "mask"}},
	{2, "wake", []string{"task"}},
	{3, "block", []string{"got"}},
	{4, "exit", []string{"got"}},
	{5, "tick", []string{"ticks", "got"}},
	{6, "pick", []string{"got"}},
	{7, "reweight", []string{"task", "weight"}},
	{8, "regroup", []string{"group", "weight"}},
	{9, "migrate", []string{"task", "to"}},
	{10, "balance", []string{"got"}},
}

// order is the order in which fields are compared.
var order = []string{"seq", "time", "cpu", "kind", "task", "group", "to", "weight", "ticks", "mask", "got"}

// describe answers what the table tells of a kind.
func describe(kind uint8) (described, bool) {
	for _, d := range table {
		if d.kind == kind {
			return d, true
		}
	}
	return described{}, false
}

// limits answers the least and the greatest number of a field of a kind, but for the mask.
func limits(kind uint8, field string) (int, int) {
	switch field {
	case "seq":
		return 1, 281474976710656
	case "time":
		return 0, 281474976710656
	case "cpu", "to":
		return 0, 63
	case "task":
		return 1, 65535
	case "group":
		if kind == 8 {
			return 1, 255
		}
		return 0, 255
	case "weight":
		return 1, 65536
	case "ticks":
		return 1, 4294967295
	case "got":
		if kind == 5 || kind == 6 {
			return 0, 65535
		}
		return 1, 65535
	}
	panic(field)
}

// number answers a field whose type is int.
func number(e *Event, field string) *int {
	switch field {
	case "seq":
		return &e.Seq
	case "time":
		return &e.Time
	case "task":
		return &e.Task
	case "group":
		return &e.Group
	case "to":
		return &e.To
	case "weight":
		return &e.Weight
	case "ticks":
		return &e.Ticks
	case "got":
		return &e.Got
	}
	return nil
}

// inLimits says by the definition whether a field is within its limits.
func inLimits(e Event, field string) bool {
	if field == "mask" {
		return e.Cpu < 64 && e.Mask/(1<<e.Cpu)%2 == 1
	}
	n := int(e.Cpu)
	if p := number(&e, field); p != nil {
		n = *p
	}
	least, most := limits(e.Kind, field)
	return n >= least && n <= most && (field != "to" || n != int(e.Cpu))
}

// checkByDefinition answers what Check has to.
func checkByDefinition(e Event) api.Errno {
	d, is := describe(e.Kind)
	if !is {
		return ErrKind
	}
	for _, f := range append([]string{"seq", "time", "cpu"}, d.fields...) {
		if !inLimits(e, f) {
			return ErrField
		}
	}
	for _, f := range order[4:] {
		if slices.Contains(d.fields, f) {
			continue
		}
		if f == "mask" && e.Mask != 0 || f != "mask" && *number(&e, f) != 0 {
			return ErrOther
		}
	}
	return api.OK
}

// valuesByDefinition answers the numbers in the fields of the kind of a right event.
func valuesByDefinition(e Event) []uint64 {
	d, _ := describe(e.Kind)
	var l []uint64
	for _, f := range d.fields {
		if f == "mask" {
			l = append(l, e.Mask)
		} else {
			l = append(l, uint64(*number(&e, f)))
		}
	}
	return l
}

func textByDefinition(e Event) string {
	d, _ := describe(e.Kind)
	s := strconv.Itoa(e.Seq) + " " + strconv.Itoa(e.Time) + " " + strconv.Itoa(int(e.Cpu)) + " " + d.name
	for _, x := range valuesByDefinition(e) {
		s += " " + strconv.FormatUint(x, 10)
	}
	return s
}

var shape = regexp.MustCompile(`\A(0|[1-9][0-9]*) (0|[1-9][0-9]*) (0|[1-9][0-9]*) ([a-z]+)((?: (?:0|[1-9][0-9]*))*)\z`)

// readByDefinition answers the right event with a text, if there is one.
func readByDefinition(s string) (Event, bool) {
	m := shape.FindStringSubmatch(s)
	if m == nil {
		return Event{}, false
	}
	at := slices.IndexFunc(table, func(d described) bool { return d.name == m[4] })
	words := strings.Fields(m[5])
	if at < 0 || len(words) != len(table[at].fields) {
		return Event{}, false
	}
	e := Event{Kind: table[at].kind}
	cpu, err := strconv.ParseUint(m[3], 10, 8)
	if err != nil {
		return Event{}, false
	}
	e.Cpu = uint8(cpu)
	for i, f := range append([]string{"seq", "time"}, table[at].fields...) {
		word := append([]string{m[1], m[2]}, words...)[i]
		if f == "mask" {
			e.Mask, err = strconv.ParseUint(word, 10, 64)
		} else {
			*number(&e, f), err = strconv.Atoi(word)
		}
		if err != nil {
			return Event{}, false
		}
	}
	return e, checkByDefinition(e) == api.OK
}

// Events to ask for.

// plain are right events, one of each kind, in the order of the kinds.
func plain() []Event {
	return []Event{
		{Seq: 1, Time: 0, Cpu: 2, Kind: 1, Task: 7, Group: 0, Weight: 1024, Mask: 255},
		{Seq: 2, Time: 5, Cpu: 5, Kind: 2, Task: 8},
		{Seq: 3, Time: 7, Cpu: 5, Kind: 3, Got: 8},
		{Seq: 4, Time: 9, Cpu: 63, Kind: 4, Got: 9},
		{Seq: 5, Time: 40, Cpu: 2, Kind: 5, Ticks: 40, Got: 7},
		{Seq: 6, Time: 41, Cpu: 0, Kind: 6, Got: 3},
		{Seq: 7, Time: 41, Cpu: 5, Kind: 7, Task: 3, Weight: 2048},
		{Seq: 8, Time: 42, Cpu: 5, Kind: 8, Group: 4, Weight: 3},
		{Seq: 9, Time: 43, Cpu: 5, Kind: 9, Task: 6, To: 1},
		{Seq: 10, Time: 44, Cpu: 5, Kind: 10, Got: 6},
	}
}

// rights are right events: plain ones, those with the least and the greatest numbers, and others.
func rights() []Event {
	l := plain()
	d := newDice()
	for _, k := range table {
		for i := range 60 {
			l = append(l, rightOf(k, func(least, most int) int {
				switch {
				case i == 0:
					return least
				case i == 1:
					return most
				case i < 10:
					return []int{least, min(least+1, most), max(most-1, least), most}[d.IntN(4)]
				case i < 30:
					return min(least+d.IntN(3), most)
				}
				return least + d.IntN(most-least+1)
			}, d))
		}
	}
	return l
}

// rightOf answers a right event whose numbers are chosen.
func rightOf(k described, choose func(least, most int) int, d *rand.Rand) Event {
	e := Event{Kind: k.kind}
	e.Cpu = uint8(choose(limits(k.kind, "cpu")))
	for _, f := range append([]string{"seq", "time"}, k.fields...) {
		switch f {
		case "mask":
			e.Mask = d.Uint64()>>d.IntN(64) | 1<<e.Cpu
			if e.Cpu == 63 {
				e.Mask = math.MaxUint64
			}
		case "to":
			if e.To = choose(limits(k.kind, f)); e.To == int(e.Cpu) {
				e.To = (e.To + 1) % 64
			}
		default:
			*number(&e, f) = choose(limits(k.kind, f))
		}
	}
	return e
}

// ints are numbers at, beside and far from the limits of all fields.
var ints = []int{
	math.MinInt, math.MinInt + 1, -1 << 48, -1 << 32, -65536, -65535, -256, -64, -1, 0, 1, 2, 5, 7, 62, 63, 64, 65, 254, 255, 256, 257,
	65534, 65535, 65536, 65537, 65541, 1<<32 - 2, 1<<32 - 1, 1 << 32, 1<<32 + 1, 1<<48 - 1, 1 << 48, 1<<48 + 1, math.MaxInt - 1, math.MaxInt,
}

var masks = []uint64{0, 1, 2, 3, 4, 31, 32, 33, 251, 1 << 31, 1 << 32, 1 << 62, 1 << 63, 1<<63 | 1, math.MaxInt64, math.MaxUint64, math.MaxUint64 - 1, math.MaxUint64 - 4, math.MaxUint64 - 32}

// change makes one field another one.
type change struct {
	field string
	do    func(e *Event)
}

func changes() []change {
	var l []change
	for _, f := range order {
		for _, n := range ints {
			if number(&Event{}, f) != nil {
				l = append(l, change{f, func(e *Event) { *number(e, f) = n }})
			}
		}
	}
	for _, c := range []uint8{0, 1, 2, 5, 31, 32, 62, 63, 64, 65, 127, 128, 192, 254, 255} {
		l = append(l, change{"cpu", func(e *Event) { e.Cpu = c }})
	}
	for _, k := range []uint8{0, 1, 2, 3, 4, 5, 6, 7, 8, 9, 10, 11, 12, 16, 127, 128, 129, 255} {
		l = append(l, change{"kind", func(e *Event) { e.Kind = k }})
	}
	for _, m := range masks {
		l = append(l, change{"mask", func(e *Event) { e.Mask = m }})
	}
	return l
}

// changed are all events that have one or two fields of a plain one changed.
func changed(look func(e Event)) {
	l := changes()
	for _, p := range plain() {
		for i, a := range l {
			e := p
			a.do(&e)
			look(e)
			for _, b := range l[i+1:] {
				two := e
				b.do(&two)
				look(two)
			}
		}
	}
}

func TestConstants(t *testing.T) {
	if MaxSeq != 281474976710656 || MaxTask != 65535 || MaxTicks != 4294967295 || Kinds != 10 {
		t.Error(MaxSeq, MaxTask, MaxTicks, Kinds)
	}
	if ErrKind != 60 || ErrField != 61 || ErrOther != 62 || ErrText != 63 {
		t.Error(ErrKind, ErrField, ErrOther, ErrText)
	}
}

// The chapter's examples.

func TestExamples(t *testing.T) {
	spawn := Event{Seq: 1, Time: 0, Cpu: 2, Kind: api.KindSpawn, Task: 7, Group: 0, Weight: 1024, Mask: 255}
	if s, err := Text(spawn); s != "1 0 2 spawn 7 0 1024 255" || err != api.OK {
		t.Error(s, err)
	}
	if l, err := Values(spawn); !slices.Equal(l, []uint64{7, 0, 1024, 255}) || err != api.OK {
		t.Error(l, err)
	}
	other := spawn
	other.Mask = 3
	if err := Check(other); err != ErrField {
		t.Error(err)
	}
	if e, err := Read("5 40 2 tick 40 7"); e != (Event{Seq: 5, Time: 40, Cpu: 2, Kind: api.KindTick, Ticks: 40, Got: 7}) || err != api.OK {
		t.Error(e, err)
	}
	if e, err := Read("05 40 2 tick 40 7"); e != (Event{}) || err != ErrText {
		t.Error(e, err)
	}
	if err := Check(Event{Seq: 1, Kind: api.KindWake, Task: 7, Got: 1}); err != ErrOther {
		t.Error(err)
	}
	if err := Check(Event{Seq: 1, Cpu: 2, Kind: api.KindMigrate, Task: 7, To: 2}); err != ErrField {
		t.Error(err)
	}
	if err := Check(Event{}); err != ErrKind {
		t.Error(err)
	}
	pick := Event{Seq: 3, Time: 4, Cpu: 1, Kind: api.KindPick}
	if e, err := With(pick, []uint64{0}); e != pick || err != api.OK {
		t.Error(e, err)
	}
	if e, err := With(pick, []uint64{0, 0}); e != (Event{}) || err != api.ErrArg {
		t.Error(e, err)
	}
	if l := Fields(9); !slices.Equal(l, []string{"task", "to"}) {
		t.Error(l)
	}
	other = spawn
	other.Weight, other.Time = 5, 9
	if f := Differs(spawn, other); f != "time" {
		t.Error(f)
	}
}

// P6.1: right events.

func TestCheckOfRightEvents(t *testing.T) {
	for _, e := range rights() {
		if err := Check(e); err != api.OK {
			t.Errorf("Check(%+v) = %d", e, err)
		}
	}
}

func TestCheckAtBelowAndAboveEachLimit(t *testing.T) {
	for _, p := range plain() {
		d, _ := describe(p.Kind)
		for _, f := range append([]string{"seq", "time"}, d.fields...) {
			if f == "mask" {
				continue
			}
			least, most := limits(p.Kind, f)
			for _, c := range []struct {
				n    int
				want api.Errno
			}{
				{least, api.OK}, {least + 1, api.OK}, {most, api.OK}, {most - 1, api.OK},
				{least - 1, ErrField}, {most + 1, ErrField}, {-1, ErrField}, {-most, ErrField}, {math.MinInt, ErrField}, {math.MaxInt, ErrField},
			} {
				e := p
				*number(&e, f) = c.n
				if err := Check(e); err != c.want {
					t.Errorf("%s with the %s %d: Check = %d, not %d", d.name, f, c.n, err, c.want)
				}
			}
		}
	}
}

func TestCheckOfCpus(t *testing.T) {
	for _, p := range plain() {
		for c := range 256 {
			e := p
			e.Cpu = uint8(c)
			if e.Kind == api.KindSpawn {
				e.Mask = math.MaxUint64
			}
			want := api.OK
			if c > 63 || e.Kind == api.KindMigrate && c == e.To {
				want = ErrField
			}
			if err := Check(e); err != want {
				t.Errorf("%+v: Check = %d, not %d", e, err, want)
			}
		}
	}
}

func TestCheckOfToAndCpu(t *testing.T) {
	for c := range uint8(64) {
		for to := -1; to < 66; to++ {
			e := Event{Seq: 1, Cpu: c, Kind: api.KindMigrate, Task: 1, To: to}
			want := api.OK
			if to < 0 || to > 63 || to == int(c) {
				want = ErrField
			}
			if err := Check(e); err != want {
				t.Errorf("from %d to %d: Check = %d, not %d", c, to, err, want)
			}
		}
	}
}

func TestCheckOfMasks(t *testing.T) {
	for c := range uint8(64) {
		bit := uint64(1) << c
		for _, m := range masks {
			e := Event{Seq: 1, Cpu: c, Kind: api.KindSpawn, Task: 1, Weight: 1}
			e.Mask = m | bit
			if err := Check(e); err != api.OK {
				t.Errorf("cpu %d, mask %x: Check = %d", c, e.Mask, err)
			}
			e.Mask = m &^ bit
			if err := Check(e); err != ErrField {
				t.Errorf("cpu %d, mask %x: Check = %d", c, e.Mask, err)
			}
		}
	}
}

func TestCheckOfGroup0AndGot0(t *testing.T) {
	for _, p := range plain() {
		group, got := p, p
		group.Group, got.Got = 0, 0
		wantGroup, wantGot := api.OK, api.OK
		switch p.Kind {
		case api.KindRegroup:
			wantGroup = ErrField
		case api.KindBlock, api.KindExit, api.KindBalance:
			wantGot = ErrField
		}
		if err := Check(group); err != wantGroup {
			t.Errorf("%+v: Check = %d, not %d", group, err, wantGroup)
		}
		if err := Check(got); err != wantGot {
			t.Errorf("%+v: Check = %d, not %d", got, err, wantGot)
		}
	}
}

func TestCheckOfOtherFields(t *testing.T) {
	for _, p := range plain() {
		d, _ := describe(p.Kind)
		for _, c := range changes() {
			e := p
			c.do(&e)
			if slices.Contains(d.fields, c.field) || slices.Contains(order[:4], c.field) || e == p {
				continue
			}
			if err := Check(e); err != ErrOther {
				t.Errorf("%+v: Check = %d", e, err)
			}
		}
	}
}

func TestCheckOfChangedEvents(t *testing.T) {
	seen := map[api.Errno]int{}
	changed(func(e Event) {
		want := checkByDefinition(e)
		if err := Check(e); err != want {
			t.Errorf("Check(%+v) = %d, not %d", e, err, want)
		}
		seen[want]++
	})
	for _, err := range []api.Errno{api.OK, ErrKind, ErrField, ErrOther} {
		if seen[err] == 0 {
			t.Errorf("no event has the error %d", err)
		}
	}
}

func TestErrorsInTheirOrder(t *testing.T) {
	// All fields are wrong, and they are made right one after the other.
	e := Event{Seq: 0, Time: -1, Cpu: 64, Kind: 11, Task: 0, Group: 256, To: 64, Weight: 0, Ticks: -1, Mask: 1, Got: -1}
	if err := Check(e); err != ErrKind {
		t.Error(err)
	}
	e.Kind = api.KindReweight
	for _, right := range []func(){func() { e.Seq = 1 }, func() { e.Time = 0 }, func() { e.Cpu = 63 }, func() { e.Task = 1 }, func() { e.Weight = 1 }} {
		if err := Check(e); err != ErrField {
			t.Errorf("%+v: %d", e, err)
		}
		right()
	}
	for _, right := range []func(){func() { e.Group = 0 }, func() { e.To = 0 }, func() { e.Ticks = 0 }, func() { e.Mask = 0 }, func() { e.Got = 0 }} {
		if err := Check(e); err != ErrOther {
			t.Errorf("%+v: %d", e, err)
		}
		right()
	}
	if err := Check(e); err != api.OK {
		t.Error(err)
	}
}

// P6.2: names and fields.

func TestNamesAndFields(t *testing.T) {
	for k := range 256 {
		kind := uint8(k)
		d, _ := describe(kind)
		if s := Name(kind); s != d.name {
			t.Errorf("Name(%d) = %q, not %q", kind, s, d.name)
		}
		if l := Fields(kind); !slices.Equal(l, d.fields) {
			t.Errorf("Fields(%d) = %v, not %v", kind, l, d.fields)
		}
	}
	for i, k := range []uint8{api.KindSpawn, api.KindWake, api.KindBlock, api.KindExit, api.KindTick, api.KindPick, api.KindReweight, api.KindRegroup, api.KindMigrate, api.KindBalance} {
		if s := Name(k); s != table[i].name {
			t.Errorf("Name(%d) = %q, not %q", k, s, table[i].name)
		}
	}
}

func checkFind(t *testing.T, name string) {
	t.Helper()
	want := uint8(0)
	for _, d := range table {
		if d.name == name {
			want = d.kind
		}
	}
	if k, is := Find(name); k != want || is != (want > 0) {
		t.Errorf("Find(%q) = %d %v, not %d", name, k, is, want)
	}
}

func TestFind(t *testing.T) {
	for _, s := range []string{"", " ", "0", "1", "10", "event", "kind", "task", "got", "none", "spawnspawn", "wake wake", "pick\x00", strings.Repeat("tick", 1000)} {
		checkFind(t, s)
	}
	for _, d := range table {
		for _, s := range []string{d.name, strings.ToUpper(d.name), strings.ToUpper(d.name[:1]) + d.name[1:], d.name + " ", " " + d.name, d.name + "s"} {
			checkFind(t, s)
		}
		// Names that differ in one letter, that have one more, or one less.
		for i := range d.name {
			checkFind(t, d.name[:i]+d.name[i+1:])
			for c := range 256 {
				letter := string([]byte{byte(c)})
				checkFind(t, d.name[:i]+letter+d.name[i+1:])
				checkFind(t, d.name[:i]+letter+d.name[i:])
			}
		}
	}
}

// P6.3: values.

func TestValuesOfRightEvents(t *testing.T) {
	for _, e := range rights() {
		if l, err := Values(e); err != api.OK || !slices.Equal(l, valuesByDefinition(e)) {
			t.Errorf("Values(%+v) = %v %d, not %v", e, l, err, valuesByDefinition(e))
		}
	}
	for i, want := range [][]uint64{{7, 0, 1024, 255}, {8}, {8}, {9}, {40, 7}, {3}, {3, 2048}, {4, 3}, {6, 1}, {6}} {
		if l, err := Values(plain()[i]); err != api.OK || !slices.Equal(l, want) {
			t.Errorf("Values(%+v) = %v %d, not %v", plain()[i], l, err, want)
		}
	}
}

func TestValuesOfChangedEvents(t *testing.T) {
	changed(func(e Event) {
		want := checkByDefinition(e)
		l, err := Values(e)
		if err != want || err != api.OK && len(l) != 0 || err == api.OK && !slices.Equal(l, valuesByDefinition(e)) {
			t.Errorf("Values(%+v) = %v %d, not %d", e, l, err, want)
		}
	})
}

// head answers what With keeps of an event.
func head(e Event) Event { return Event{Seq: e.Seq, Time: e.Time, Cpu: e.Cpu, Kind: e.Kind} }

// littered answers an event with something in all fields that only some kinds have.
func littered(e Event) Event {
	e.Task, e.Group, e.To, e.Weight, e.Ticks, e.Mask, e.Got = -1, 999, 77, math.MaxInt, math.MinInt, 12345, -5
	return e
}

func TestWithTheValuesOfRightEvents(t *testing.T) {
	for _, e := range rights() {
		for _, from := range []Event{e, head(e), littered(e)} {
			if got, err := With(from, valuesByDefinition(e)); got != e || err != api.OK {
				t.Errorf("With(%+v, %v) = %+v %d", from, valuesByDefinition(e), got, err)
			}
		}
	}
}

// withByDefinition answers what With has to, for as many values as there are fields.
func withByDefinition(e Event, values []uint64) (Event, bool) {
	d, _ := describe(e.Kind)
	with := head(e)
	for i, f := range d.fields {
		switch {
		case f == "mask":
			with.Mask = values[i]
		case values[i] > math.MaxInt:
			return Event{}, false
		default:
			*number(&with, f) = int(values[i])
		}
	}
	return with, checkByDefinition(with) == api.OK
}

// numbers are values at, beside and far from all limits, and beyond those of an int.
func numbers() []uint64 {
	l := []uint64{
		1 << 63, 1<<63 | 1, 1<<63 | 7, 1<<63 | 63, 1<<63 | 65535, 1<<63 - 1, math.MaxUint64, math.MaxUint64 - 1, math.MaxUint64 - 6, math.MaxUint64 - 65535, 1<<64 - 1<<32, 1<<64 - 1<<48,
	}
	for _, n := range ints {
		if n >= 0 {
			l = append(l, uint64(n), uint64(n)|1<<63)
		}
	}
	return append(l, masks...)
}

func TestWithEachValue(t *testing.T) {
	for _, p := range plain() {
		values := valuesByDefinition(p)
		for i := range values {
			for _, x := range numbers() {
				for _, from := range []Event{p, littered(p)} {
					l := slices.Clone(values)
					l[i] = x
					want, is := withByDefinition(from, l)
					got, err := With(from, l)
					if is && (got != want || err != api.OK) || !is && (got != Event{} || err != ErrField) {
						t.Errorf("With(%+v, %v) = %+v %d", from, l, got, err)
					}
				}
			}
		}
	}
}

func TestWithWrongHeads(t *testing.T) {
	for _, p := range plain() {
		for _, c := range []func(e *Event){
			func(e *Event) { e.Seq = 0 }, func(e *Event) { e.Seq = -1 }, func(e *Event) { e.Seq = 1<<48 + 1 }, func(e *Event) { e.Seq = math.MinInt },
			func(e *Event) { e.Time = -1 }, func(e *Event) { e.Time = 1<<48 + 1 }, func(e *Event) { e.Time = math.MaxInt },
			func(e *Event) { e.Cpu = 64 }, func(e *Event) { e.Cpu = 255 },
		} {
			e := p
			c(&e)
			if got, err := With(e, valuesByDefinition(p)); got != (Event{}) || err != ErrField {
				t.Errorf("With(%+v) = %+v %d", e, got, err)
			}
		}
	}
	// The CPU of the event, and no other one, is that of the values.
	move := Event{Seq: 1, Cpu: 9, Kind: api.KindMigrate, To: 5}
	if e, err := With(move, []uint64{1, 9}); e != (Event{}) || err != ErrField {
		t.Error(e, err)
	}
	spawn := Event{Seq: 1, Cpu: 9, Kind: api.KindSpawn, Mask: 1 << 9}
	if e, err := With(spawn, []uint64{1, 0, 1, 1 << 8}); e != (Event{}) || err != ErrField {
		t.Error(e, err)
	}
}

func TestWithTooFewAndTooManyValues(t *testing.T) {
	for _, p := range plain() {
		d, _ := describe(p.Kind)
		for n := range 12 {
			if n == len(d.fields) {
				continue
			}
			for _, x := range []uint64{0, 1, math.MaxUint64} {
				l := slices.Repeat([]uint64{x}, n)
				// The number of values comes before what is in them, and in the event.
				for _, e := range []Event{p, littered(p), {Seq: -1, Time: -1, Cpu: 64, Kind: p.Kind}} {
					if got, err := With(e, l); got != (Event{}) || err != api.ErrArg {
						t.Errorf("With(%+v, %v) = %+v %d", e, l, got, err)
					}
				}
			}
		}
		if got, err := With(p, nil); got != (Event{}) || err != api.ErrArg {
			t.Errorf("With(%+v, nil) = %+v %d", p, got, err)
		}
	}
}

func TestWithKindsThatThereAreNot(t *testing.T) {
	for k := range 256 {
		if _, is := describe(uint8(k)); is {
			continue
		}
		for n := range 6 {
			e := Event{Seq: 1, Kind: uint8(k)}
			if got, err := With(e, slices.Repeat([]uint64{1}, n)); got != (Event{}) || err != ErrKind {
				t.Errorf("With(%+v, %d values) = %+v %d", e, n, got, err)
			}
			for _, e := range []Event{e, littered(e)} {
				if err := Check(e); err != ErrKind {
					t.Errorf("Check(%+v) = %d", e, err)
				}
				if l, err := Values(e); len(l) != 0 || err != ErrKind {
					t.Errorf("Values(%+v) = %v %d", e, l, err)
				}
				if s, err := Text(e); s != "" || err != ErrKind {
					t.Errorf("Text(%+v) = %q %d", e, s, err)
				}
			}
		}
	}
}

// P6.4: texts.

func TestTextsOfPlainEvents(t *testing.T) {
	for i, want := range []string{
		"1 0 2 spawn 7 0 1024 255", "2 5 5 wake 8", "3 7 5 block 8", "4 9 63 exit 9", "5 40 2 tick 40 7",
		"6 41 0 pick 3", "7 41 5 reweight 3 2048", "8 42 5 regroup 4 3", "9 43 5 migrate 6 1", "10 44 5 balance 6",
	} {
		if s, err := Text(plain()[i]); s != want || err != api.OK {
			t.Errorf("%q %d, not %q", s, err, want)
		}
		if e, err := Read(want); e != plain()[i] || err != api.OK {
			t.Errorf("Read(%q) = %+v %d", want, e, err)
		}
	}
}

func TestTheLongestTexts(t *testing.T) {
	const most = 1 << 48
	for _, c := range []struct {
		e    Event
		text string
	}{
		{Event{Seq: most, Time: most, Cpu: 63, Kind: 1, Task: 65535, Group: 255, Weight: 65536, Mask: math.MaxUint64}, "281474976710656 281474976710656 63 spawn 65535 255 65536 18446744073709551615"},
		{Event{Seq: most, Time: most, Cpu: 63, Kind: 2, Task: 65535}, "281474976710656 281474976710656 63 wake 65535"},
		{Event{Seq: most, Time: most, Cpu: 63, Kind: 3, Got: 65535}, "281474976710656 281474976710656 63 block 65535"},
		{Event{Seq: most, Time: most, Cpu: 63, Kind: 4, Got: 65535}, "281474976710656 281474976710656 63 exit 65535"},
		{Event{Seq: most, Time: most, Cpu: 63, Kind: 5, Ticks: 4294967295, Got: 65535}, "281474976710656 281474976710656 63 tick 4294967295 65535"},
		{Event{Seq: most, Time: most, Cpu: 63, Kind: 6, Got: 65535}, "281474976710656 281474976710656 63 pick 65535"},
		{Event{Seq: most, Time: most, Cpu: 63, Kind: 7, Task: 65535, Weight: 65536}, "281474976710656 281474976710656 63 reweight 65535 65536"},
		{Event{Seq: most, Time: most, Cpu: 63, Kind: 8, Group: 255, Weight: 65536}, "281474976710656 281474976710656 63 regroup 255 65536"},
		{Event{Seq: most, Time: most, Cpu: 63, Kind: 9, Task: 65535, To: 62}, "281474976710656 281474976710656 63 migrate 65535 62"},
		{Event{Seq: most, Time: most, Cpu: 63, Kind: 10, Got: 65535}, "281474976710656 281474976710656 63 balance 65535"},
	} {
		if s, err := Text(c.e); s != c.text || err != api.OK {
			t.Errorf("%q %d, not %q", s, err, c.text)
		}
		if e, err := Read(c.text); e != c.e || err != api.OK {
			t.Errorf("Read(%q) = %+v %d", c.text, e, err)
		}
	}
}

func TestTextsOfRightEvents(t *testing.T) {
	for _, e := range rights() {
		s, err := Text(e)
		if s != textByDefinition(e) || err != api.OK {
			t.Errorf("Text(%+v) = %q %d", e, s, err)
		}
		if got, err := Read(s); got != e || err != api.OK {
			t.Errorf("Read(%q) = %+v %d", s, got, err)
		}
	}
}

func TestTextsOfChangedEvents(t *testing.T) {
	changed(func(e Event) {
		want, text := checkByDefinition(e), ""
		if want == api.OK {
			text = textByDefinition(e)
		}
		if s, err := Text(e); s != text || err != want {
			t.Errorf("Text(%+v) = %q %d, not %q %d", e, s, err, text, want)
		}
	})
}

// checkRead reads a string, and compares with the definition; it answers whether it was a text.
func checkRead(t *testing.T, s string) bool {
	t.Helper()
	want, is := readByDefinition(s)
	e, err := Read(s)
	if is && (e != want || err != api.OK) || !is && (e != Event{} || err != ErrText) {
		t.Errorf("Read(%q) = %+v %d, not %v", s, e, err, is)
	}
	return is
}

func TestReadOfStringsThatAreNoTexts(t *testing.T) {
	for _, s := range []string{
		"", " ", "   ", "\x00", "\n", "1", "1 0", "1 0 2", "1 0 2 ", "1 0 2 wake", "1 0 2 wake ", "wake", "wake 7", " wake 7", "0 wake 7", "0 0 wake 7", "1 0 0 0 wake 7",
		"01 0 2 wake 7", "1 00 2 wake 7", "1 0 02 wake 7", "1 0 2 wake 07", "1 0 2 wake 007", "00000000000000000001 0 2 wake 7",
		"+1 0 2 wake 7", "1 +0 2 wake 7", "1 -0 2 wake 7", "1 0 +2 wake 7", "1 0 -2 wake 7", "1 0 2 wake +7", "1 0 2 wake -7", "-1 0 2 wake 7", "1 -1 2 wake 7",
		" 1 0 2 wake 7", "1 0 2 wake 7 ", "1  0 2 wake 7", "1 0  2 wake 7", "1 0 2  wake 7", "1 0 2 wake  7", "1\t0 2 wake 7", "1 0 2 wake 7\n", "\n1 0 2 wake 7", "1 0 2 wake\u00a07", "1,0,2,wake,7",
		"1 0 2 Wake 7", "1 0 2 WAKE 7", "1 0 2 wakes 7", "1 0 2 wak 7", "1 0 2 2 7", "1 0 2 spawn 7", "1 0 2 none 7", "1 0 2  7", "1 0 2 kind 7",
		"1 0 2 wake 7 0", "1 0 2 wake 7 7", "1 0 2 spawn 7 0 1024", "1 0 2 spawn 7 0 1024 255 0", "1 0 2 spawn 7 0 1024 255 ", "1 0 2 tick 4", "1 0 2 tick", "1 0 2 tick 4 7 0 0 0 0 0",
		"0 0 2 wake 7", "281474976710657 0 2 wake 7", "1 281474976710657 2 wake 7", "1 0 64 wake 7", "1 0 255 wake 7", "1 0 256 wake 7", "1 0 258 wake 7", "1 0 18446744073709551618 wake 7",
		"1 0 2 wake 0", "1 0 2 wake 65536", "1 0 2 wake 65543", "1 0 2 wake 4294967303", "1 0 2 wake 18446744073709551615", "1 0 2 wake 18446744073709551616", "1 0 2 wake 18446744073709551623", "1 0 2 wake 9223372036854775815",
		"18446744073709551617 0 2 wake 7", "9223372036854775809 0 2 wake 7", "1 18446744073709551616 2 wake 7", "1 9223372036854775808 2 wake 7", "1 0 2 spawn 7 0 1024 18446744073709551620", "1 0 2 spawn 7 0 1024 18446744073709551871",
		"1 0 2 spawn 7 0 1024 3", "1 0 2 spawn 7 0 1024 0", "1 0 2 spawn 7 256 1024 255", "1 0 2 spawn 7 0 0 255", "1 0 2 spawn 7 0 65537 255", "1 0 2 migrate 7 2", "1 0 2 migrate 7 64", "1 0 2 regroup 0 5", "1 0 2 tick 0 7", "1 0 2 tick 4294967296 7",
		"1 0 2 block 0", "1 0 2 exit 0", "1 0 2 balance 0", "0x1 0 2 wake 7", "1 0 2 wake 0x7", "1 0 2 wake 0b1", "1 0 2 wake 0o7", "1 0 2 wake 1_0", "1 0 2 wake 7.0", "1 0 2 wake 7e0", "1 0 2 wake a", "1 0 2 wake ٧", "1 0 2 wake ７", "one 0 2 wake 7",
	} {
		if checkRead(t, s) {
			t.Errorf("%q is a text", s)
		}
	}
}

func TestReadOfTextsAtTheirLimits(t *testing.T) {
	for _, s := range []string{
		"1 0 0 wake 1", "1 0 0 pick 0", "1 0 0 pick 65535", "1 0 0 tick 1 0", "1 0 0 tick 4294967295 0", "1 0 63 wake 65535", "281474976710656 281474976710656 0 wake 1", "1 0 0 regroup 1 1", "1 0 0 regroup 255 65536",
		"1 0 0 spawn 1 0 1 1", "1 0 63 spawn 65535 255 65536 9223372036854775808", "1 0 0 migrate 1 63", "1 0 63 migrate 1 0", "1 0 0 block 1", "1 0 0 exit 1", "1 0 0 balance 1", "1 0 0 reweight 1 65536",
	} {
		if !checkRead(t, s) {
			t.Errorf("%q is no text", s)
		}
	}
}

func TestReadOfTextsWithOneByteChanged(t *testing.T) {
	for _, p := range plain() {
		s := textByDefinition(p)
		for i := range len(s) + 1 {
			if i < len(s) {
				checkRead(t, s[:i]+s[i+1:])
				checkRead(t, s[i:])
			}
			checkRead(t, s[:i])
			for c := range 256 {
				b := string([]byte{byte(c)})
				checkRead(t, s[:i]+b+s[i:])
				if i < len(s) {
					checkRead(t, s[:i]+b+s[i+1:])
				}
			}
		}
	}
}

func TestReadOfTextsWithOneWordChanged(t *testing.T) {
	others := []string{"", "0", "00", "1", "01", "+1", "-1", "-0", "2", "3", "63", "64", "255", "256", "257", "65535", "65536", "65537", "4294967295", "4294967296", "281474976710656", "281474976710657", "9223372036854775807", "9223372036854775808", "18446744073709551615", "18446744073709551616", "99999999999999999999999", "1_0", "0x1", "1.0", " ", "x"}
	for _, d := range table {
		others = append(others, d.name, strings.ToUpper(d.name))
	}
	texts := 0
	for _, p := range plain() {
		words := strings.Split(textByDefinition(p), " ")
		for i := range len(words) + 1 {
			for _, w := range others {
				if checkRead(t, strings.Join(slices.Insert(slices.Clone(words), i, w), " ")) {
					texts++
				}
				if i < len(words) && checkRead(t, strings.Join(slices.Replace(slices.Clone(words), i, i+1, w), " ")) {
					texts++
				}
			}
			if i < len(words) {
				checkRead(t, strings.Join(slices.Delete(slices.Clone(words), i, i+1), " "))
			}
		}
	}
	if texts < 100 {
		t.Errorf("only %d of the strings are texts", texts)
	}
}

func TestReadOfLongStrings(t *testing.T) {
	for _, s := range []string{
		strings.Repeat(" ", 1<<20), strings.Repeat("1 ", 1<<20), strings.Repeat("9", 1<<20), "1 0 2 wake " + strings.Repeat("0", 1<<20) + "7", "1 0 2 wake 7" + strings.Repeat(" 0", 1<<20),
		"1 0 2 " + strings.Repeat("wake", 1<<18) + " 7", strings.Repeat("1 0 2 wake 7 ", 1000), "1 0 2 spawn 7 0 1024 255" + strings.Repeat(" 255", 100), strings.Repeat("0", 300) + "1 0 2 wake 7",
	} {
		if e, err := Read(s); e != (Event{}) || err != ErrText {
			t.Errorf("%q..: %+v %d", s[:12], e, err)
		}
	}
}

// P6.5: what differs.

// differsByDefinition compares field by field.
func differsByDefinition(a, b Event) string {
	for _, f := range order {
		same := true
		switch f {
		case "cpu":
			same = a.Cpu == b.Cpu
		case "kind":
			same = a.Kind == b.Kind
		case "mask":
			same = a.Mask == b.Mask
		default:
			same = *number(&a, f) == *number(&b, f)
		}
		if !same {
			return f
		}
	}
	return ""
}

func TestDiffersInOneField(t *testing.T) {
	for _, p := range append(plain(), Event{}, littered(Event{Kind: 255, Seq: -1, Time: math.MinInt, Cpu: 200})) {
		if f := Differs(p, p); f != "" {
			t.Errorf("%+v and itself: %q", p, f)
		}
		for _, c := range changes() {
			e := p
			c.do(&e)
			want := c.field
			if e == p {
				want = ""
			}
			if f, g := Differs(p, e), Differs(e, p); f != want || g != want {
				t.Errorf("%+v and %+v: %q and %q, not %q", p, e, f, g, want)
			}
		}
	}
}

func TestDiffersInTwoFields(t *testing.T) {
	l := changes()
	for _, p := range []Event{plain()[0], plain()[8], {}, littered(Event{Kind: 11})} {
		for i, a := range l {
			for k := i % 7; k < len(l); k += 7 {
				one, two := p, p
				a.do(&one)
				l[k].do(&two)
				both := one
				l[k].do(&both)
				for _, pair := range [][2]Event{{p, both}, {one, two}, {both, one}} {
					want := differsByDefinition(pair[0], pair[1])
					if f := Differs(pair[0], pair[1]); f != want {
						t.Errorf("%+v and %+v: %q, not %q", pair[0], pair[1], f, want)
					}
				}
			}
		}
	}
}

func TestDiffersInAllFieldsFromOneOn(t *testing.T) {
	// A field and all behind it are other ones: the first one counts.
	a := Event{}
	for i := range order {
		b := a
		for _, f := range order[i:] {
			switch f {
			case "cpu":
				b.Cpu = 1
			case "kind":
				b.Kind = 1
			case "mask":
				b.Mask = 1 << 63
			default:
				*number(&b, f) = math.MinInt
			}
		}
		if f := Differs(a, b); f != order[i] {
			t.Errorf("%q, not %q", f, order[i])
		}
	}
}

// P6.6: consequences.

func TestRightEventsAreDeterminedByTheirValues(t *testing.T) {
	texts := map[string]Event{}
	for _, e := range rights() {
		l, err := Values(e)
		if err != api.OK {
			t.Fatal(e, err)
		}
		if got, err := With(head(e), l); got != e || err != api.OK {
			t.Errorf("%+v: %+v %d", e, got, err)
		}
	}
	add := func(e Event) {
		s, err := Text(e)
		if err != api.OK {
			return
		}
		if o, is := texts[s]; is && o != e {
			t.Errorf("%+v and %+v have the text %q", o, e, s)
		}
		texts[s] = e
		if got, err := Read(s); got != e || err != api.OK || Differs(got, e) != "" {
			t.Errorf("Read(%q) = %+v %d", s, got, err)
		}
	}
	changed(add)
	for _, e := range rights() {
		add(e)
	}
	if len(texts) < 1000 {
		t.Errorf("only %d texts", len(texts))
	}
}

func TestNamesBelongToTheirKinds(t *testing.T) {
	for k := range 256 {
		s := Name(uint8(k))
		if got, is := Find(s); is != (s != "") || is && got != uint8(k) {
			t.Errorf("Find(%q) = %d %v, not %d", s, got, is, k)
		}
		e := Event{Seq: 1, Kind: uint8(k)}
		if _, err := With(e, make([]uint64, len(Fields(uint8(k))))); (err == ErrKind) != (s == "") || err == api.ErrArg {
			t.Errorf("kind %d: %d", k, err)
		}
	}
}

// Arguments and results.

func TestArgumentsAreNotModified(t *testing.T) {
	for _, e := range rights() {
		whole := append(valuesByDefinition(e), 11, 12, 13)
		old := slices.Clone(whole)
		n := len(whole) - 3
		With(e, whole[:n])
		With(e, whole[:n-1])
		With(littered(e), whole[:n])
		if !slices.Equal(whole, old) {
			t.Errorf("%+v: the values are modified", e)
		}
	}
}

func TestResultsShareNoMemory(t *testing.T) {
	for _, e := range plain() {
		d, _ := describe(e.Kind)
		for range 3 {
			// All of the memory of a result, its spare capacity too, is cleared.
			names, values := Fields(e.Kind), []uint64(nil)
			clear(names[:cap(names)])
			values, _ = Values(e)
			others, _ := Values(e)
			clear(values[:cap(values)])
			if !slices.Equal(Fields(e.Kind), d.fields) || !slices.Equal(others, valuesByDefinition(e)) {
				t.Errorf("%s: results share memory", d.name)
			}
			l := valuesByDefinition(e)
			with, _ := With(e, l)
			clear(l)
			if with != e {
				t.Errorf("%s: a result shares memory with an argument", d.name)
			}
		}
	}
	a, b := Fields(api.KindSpawn), Fields(api.KindMigrate)
	clear(a)
	if b[0] != "task" || Name(api.KindSpawn) != "spawn" {
		t.Error("names are shared")
	}
}
