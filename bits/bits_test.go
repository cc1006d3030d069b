package bits

import (
	"math"
	"math/rand/v2"
	"slices"
	"testing"

	"quantum/api"
)

// newDice throws the same numbers in every run.
func newDice() *rand.Rand { return rand.New(rand.NewPCG(5, 64)) }

// sizes are numbers N: the ends, multiples of 64 and those beside them, and others.
var sizes = []int{0, 1, 2, 7, 62, 63, 64, 65, 66, 70, 127, 128, 129, 192, 1000, 1023, 1024, 1025, MaxN - 65, MaxN - 64, MaxN - 63, MaxN - 1, MaxN}

// far are numbers that no set has as members; all but MaxN are no N either.
var far = []int{math.MinInt, math.MinInt + 1, math.MinInt + 63, math.MinInt + 64, -1 << 32, -MaxN - 1, -MaxN, -129, -128, -65, -64, -63, -2, -1, MaxN, MaxN + 1, MaxN + 63, MaxN + 64, 1 << 32, 1<<32 + 1, math.MaxInt - 64, math.MaxInt - 63, math.MaxInt - 1, math.MaxInt}

// sample is a set, and for each number whether it is a member.
type sample struct {
	s  Set
	in []bool
}

// wordsOf answers the words of a set by the definition.
func wordsOf(in []bool) []uint64 {
	var l []uint64
	for i, is := range in {
		if i%64 == 0 {
			l = append(l, 0)
		}
		if is {
			l[len(l)-1] |= 1 << (i % 64)
		}
	}
	return l
}

// choose answers the set of the numbers for which is answers true.
func choose(n int, is func(i int) bool) sample {
	in := make([]bool, n)
	for i := range in {
		in[i] = is(i)
	}
	return sample{Set{n, wordsOf(in)}, in}
}

// samplesOf are sets with the same N: without members, with all numbers, and others.
func samplesOf(n int) []sample {
	d := newDice()
	l := []sample{
		choose(n, func(int) bool { return false }),
		choose(n, func(int) bool { return true }),
		choose(n, func(i int) bool { return i == 0 }),
		choose(n, func(i int) bool { return i == n-1 }),
		choose(n, func(i int) bool { return i > 0 && i < n-1 }),
		choose(n, func(i int) bool { return i%2 == 0 }),
		choose(n, func(i int) bool { return i%64 == 0 || i%64 == 63 }),
		choose(n, func(i int) bool { return i/64%2 == 1 }),
		choose(n, func(i int) bool { return i%200 > 60 }),
	}
	for _, most := range []int{2, 3, 10, 100, 5000} {
		l = append(l, choose(n, func(int) bool { return d.IntN(most) == 0 }), choose(n, func(int) bool { return d.IntN(most) != 0 }))
	}
	return l
}

// samples are sets with all of the sizes.
func samples() []sample {
	var l []sample
	for _, n := range sizes {
		l = append(l, samplesOf(n)...)
	}
	return l
}

// small are all sets with an N of at most 8.
func small() []sample {
	var l []sample
	for n := range 9 {
		for x := range 1 << n {
			l = append(l, choose(n, func(i int) bool { return x>>i&1 == 1 }))
		}
	}
	return l
}

// around answers numbers to ask a set for: all of a small one, some of a great one, and those that are far away.
func around(n int) []int {
	l := append([]int{n, n + 1, n + 63, n + 64, n + 65}, far...)
	if n <= 1100 {
		for i := range n {
			l = append(l, i)
		}
		return l
	}
	d := newDice()
	for range 150 {
		l = append(l, d.IntN(n))
	}
	for _, at := range []int{0, 64, 640, n / 2, n - 64, n} {
		for i := at - 2; i <= at+2; i++ {
			if i >= 0 && i < n {
				l = append(l, i)
			}
		}
	}
	return l
}

// numbers answers the members, in increasing order.
func (m sample) numbers() []int {
	var l []int
	for i, is := range m.in {
		if is {
			l = append(l, i)
		}
	}
	return l
}

func (m sample) has(i int) bool { return i >= 0 && i < len(m.in) && m.in[i] }

// runs answers the runs by their definition: from one border to the next one.
func (m sample) runs() [][2]int {
	var l [][2]int
	for i := range len(m.in) + 1 {
		switch {
		case m.has(i) && !m.has(i-1):
			l = append(l, [2]int{i, -1})
		case !m.has(i) && m.has(i-1):
			l[len(l)-1][1] = i
		}
	}
	return l
}

// same reports whether two sets have the same N and the same words.
func same(a, b Set) bool { return a.N == b.N && slices.Equal(a.Words, b.Words) }

func zero(s Set) bool { return s.N == 0 && len(s.Words) == 0 }

// full answers n words that are 1 in all bits.
func full(n int) []uint64 {
	l := make([]uint64, n)
	for i := range l {
		l[i] = math.MaxUint64
	}
	return l
}

// wrong are sets that are not right.
func wrong() []Set {
	l := []Set{
		{0, []uint64{0}}, {0, []uint64{1}}, {0, make([]uint64, 1024)},
		{1, nil}, {1, []uint64{}}, {1, []uint64{0, 0}}, {1, []uint64{1, 0}}, {1, []uint64{2}}, {1, []uint64{3}}, {1, []uint64{1 << 63}},
		{63, []uint64{1 << 63}}, {63, nil}, {63, []uint64{5, 0}},
		{64, nil}, {64, []uint64{0, 0}}, {64, []uint64{7, 1}},
		{65, []uint64{0}}, {65, []uint64{1, 2}}, {65, []uint64{0, 1 << 63}}, {65, []uint64{9, 0, 0}},
		{70, []uint64{0, 64}}, {70, []uint64{10, 3 | 64}}, {70, []uint64{10}}, {70, []uint64{10, 3, 0}}, {70, nil},
		{127, []uint64{0, 1 << 63}}, {128, []uint64{3}}, {128, []uint64{3, 3, 0}},
		{MaxN, full(1023)}, {MaxN, full(1025)}, {MaxN, nil}, {MaxN - 1, full(1024)}, {MaxN - 63, full(1024)}, {MaxN - 64, full(1024)},
		{MaxN + 1, nil}, {MaxN + 1, full(1024)}, {MaxN + 1, make([]uint64, 1025)}, {MaxN + 64, make([]uint64, 1025)}, {1 << 20, make([]uint64, 1<<14)},
		{-1, nil}, {-1, []uint64{0}}, {-1, []uint64{1}}, {-63, nil}, {-64, nil}, {-64, []uint64{0}}, {-70, []uint64{10, 3}},
		{math.MinInt, nil}, {math.MinInt, []uint64{1}}, {math.MinInt + 1, nil}, {math.MaxInt, nil}, {math.MaxInt, []uint64{1}}, {math.MaxInt - 63, nil},
	}
	for _, n := range sizes {
		k := (n + 63) / 64
		l = append(l, Set{n, make([]uint64, k+1)})
		if n > 0 {
			l = append(l, Set{n, make([]uint64, k-1)})
		}
		for i := n; i < 64*k; i++ {
			b := make([]uint64, k)
			b[i/64] |= 1 << (i % 64)
			l = append(l, Set{n, b})
		}
	}
	return l
}

func TestConstants(t *testing.T) {
	if MaxN != 65536 || ErrSet != 50 || ErrSize != 51 {
		t.Error(MaxN, ErrSet, ErrSize)
	}
}

// The chapter's examples.

func TestExamples(t *testing.T) {
	s, e := Of(70, []int{1, 64, 65, 3})
	if e != api.OK || !same(s, Set{70, []uint64{10, 3}}) {
		t.Fatal(s, e)
	}
	if n := Count(s); n != 4 {
		t.Error(n)
	}
	if n := Rank(s, 64); n != 2 {
		t.Error(n)
	}
	if n := Rank(s, 1000); n != 4 {
		t.Error(n)
	}
	if i, is := Select(s, 3); i != 65 || !is {
		t.Error(i, is)
	}
	if i, is := Next(s, 4); i != 64 || !is {
		t.Error(i, is)
	}
	if i, is := Before(s, 64); i != 3 || !is {
		t.Error(i, is)
	}
	if l := Runs(s); !slices.Equal(l, [][2]int{{1, 2}, {3, 4}, {64, 66}}) {
		t.Error(l)
	}
	if s, e := Without(s, 64); e != api.OK || !same(s, Set{70, []uint64{10, 2}}) {
		t.Error(s, e)
	}
	if Right(Set{70, []uint64{0, 64}}) {
		t.Error("right")
	}
	a, _ := New(70)
	b, _ := New(71)
	if s, e := Or(a, b); e != ErrSize || !zero(s) {
		t.Error(s, e)
	}
}

// P5.1: new sets, and right ones.

func TestNew(t *testing.T) {
	for n := range 1100 {
		checkNew(t, n)
	}
	for _, n := range sizes {
		checkNew(t, n)
	}
	for _, n := range far {
		if n == MaxN {
			continue
		}
		if s, e := New(n); !zero(s) || e != api.ErrArg {
			t.Errorf("New(%d) = %d %v %d", n, s.N, s.Words, e)
		}
	}
}

func checkNew(t *testing.T, n int) {
	t.Helper()
	s, e := New(n)
	if e != api.OK || !same(s, Set{n, make([]uint64, (n+63)/64)}) || !Right(s) || Count(s) != 0 {
		t.Errorf("New(%d) = %d %v %d", n, s.N, s.Words, e)
	}
}

func TestOf(t *testing.T) {
	d := newDice()
	for _, m := range append(samples(), small()...) {
		l := m.numbers()
		checkOf(t, m, l)
		// In any order, and as often as they come.
		for range len(l) / 2 {
			l = append(l, l[d.IntN(len(l))])
		}
		d.Shuffle(len(l), func(i, k int) { l[i], l[k] = l[k], l[i] })
		checkOf(t, m, l)
		checkOf(t, m, append(l, l...))
	}
}

func checkOf(t *testing.T, m sample, l []int) {
	t.Helper()
	if s, e := Of(m.s.N, l); e != api.OK || !same(s, m.s) || !Right(s) {
		t.Errorf("Of(%d, %d numbers): %d", m.s.N, len(l), e)
	}
}

func TestOfNumbersThatAreNotAllowed(t *testing.T) {
	for _, n := range sizes {
		for _, i := range append([]int{n, n + 1, n + 64}, far...) {
			for _, l := range [][]int{{i}, {i, i}, {0, i}, {i, 0}, {n - 1, 0, i, 0}} {
				if s, e := Of(n, l); !zero(s) || e != api.ErrArg {
					t.Errorf("Of(%d, %v) = %d %v %d", n, l, s.N, s.Words, e)
				}
			}
		}
	}
	for _, n := range far {
		if n == MaxN {
			continue
		}
		for _, l := range [][]int{nil, {}, {0}, {-1}, {n}, {n - 1}, {5, 6, 7}} {
			if s, e := Of(n, l); !zero(s) || e != api.ErrArg {
				t.Errorf("Of(%d, %v) = %d %v %d", n, l, s.N, s.Words, e)
			}
		}
	}
}

func TestRight(t *testing.T) {
	for _, m := range append(samples(), small()...) {
		if !Right(m.s) {
			t.Errorf("Right(%d %v) = false", m.s.N, m.s.Words)
		}
	}
	for _, s := range []Set{{}, {0, nil}, {0, []uint64{}}, {64, full(1)}, {128, full(2)}, {63, []uint64{math.MaxUint64 >> 1}}, {65, []uint64{math.MaxUint64, 1}}, {MaxN, full(1024)}} {
		if !Right(s) {
			t.Errorf("Right(%d %v) = false", s.N, s.Words)
		}
	}
	for _, s := range wrong() {
		if Right(s) {
			t.Errorf("Right(%d, %d words) = true", s.N, len(s.Words))
		}
	}
}

// P5.2: one number.

func TestHas(t *testing.T) {
	for _, m := range append(samples(), small()...) {
		for i := range m.s.N {
			if is := Has(m.s, i); is != m.in[i] {
				t.Errorf("N %d: Has(%d) = %v", m.s.N, i, is)
			}
		}
		for _, i := range around(m.s.N) {
			if is := Has(m.s, i); is != m.has(i) {
				t.Errorf("N %d: Has(%d) = %v", m.s.N, i, is)
			}
		}
	}
}

func TestWithAndWithout(t *testing.T) {
	for _, m := range append(samples(), small()...) {
		for _, i := range around(m.s.N) {
			checkWith(t, m, i)
		}
	}
}

// checkWith changes one number of the sample, and back.
func checkWith(t *testing.T, m sample, i int) {
	t.Helper()
	with, e := With(m.s, i)
	without, f := Without(m.s, i)
	if i < 0 || i >= m.s.N {
		if !zero(with) || !zero(without) || e != api.ErrArg || f != api.ErrArg {
			t.Errorf("N %d, number %d: %v %d %v %d", m.s.N, i, with, e, without, f)
		}
		return
	}
	words := slices.Clone(m.s.Words)
	words[i/64] |= 1 << (i % 64)
	if e != api.OK || !same(with, Set{m.s.N, words}) {
		t.Errorf("N %d: With(%d): %d", m.s.N, i, e)
	}
	words[i/64] -= 1 << (i % 64)
	if f != api.OK || !same(without, Set{m.s.N, words}) {
		t.Errorf("N %d: Without(%d): %d", m.s.N, i, f)
	}
}

// P5.3: members and ranks.

func TestCountAndMembers(t *testing.T) {
	for _, m := range append(samples(), small()...) {
		l := m.numbers()
		if n := Count(m.s); n != len(l) {
			t.Errorf("N %d: Count = %d, not %d", m.s.N, n, len(l))
		}
		if got := Members(m.s); !slices.Equal(got, l) {
			t.Errorf("N %d: Members = %v, not %v", m.s.N, got, l)
		}
	}
}

func TestRank(t *testing.T) {
	for _, m := range append(samples(), small()...) {
		l := m.numbers()
		for _, i := range around(m.s.N) {
			want, _ := slices.BinarySearch(l, i)
			if n := Rank(m.s, i); n != want {
				t.Errorf("N %d: Rank(%d) = %d, not %d", m.s.N, i, n, want)
			}
		}
	}
}

func TestSelect(t *testing.T) {
	for _, m := range append(samples(), small()...) {
		l := m.numbers()
		for _, k := range append([]int{len(l), len(l) + 1, len(l) + 64}, around(len(l))...) {
			want, is := 0, k >= 0 && k < len(l)
			if is {
				want = l[k]
			}
			if i, found := Select(m.s, k); i != want || found != is {
				t.Errorf("N %d: Select(%d) = %d %v, not %d %v", m.s.N, k, i, found, want, is)
			}
		}
	}
}

// P5.4: neighbours and runs.

func TestNextAndBefore(t *testing.T) {
	for _, m := range append(samples(), small()...) {
		l := m.numbers()
		for _, i := range around(m.s.N) {
			k, _ := slices.BinarySearch(l, i)
			checkNeighbour(t, "Next", m.s, i, Next, l, k)
			checkNeighbour(t, "Before", m.s, i, Before, l, k-1)
		}
	}
}

// checkNeighbour asks for the member that the list has at k, if it has one there.
func checkNeighbour(t *testing.T, name string, s Set, i int, ask func(Set, int) (int, bool), l []int, k int) {
	t.Helper()
	want, is := 0, k >= 0 && k < len(l)
	if is {
		want = l[k]
	}
	if got, found := ask(s, i); got != want || found != is {
		t.Errorf("N %d: %s(%d) = %d %v, not %d %v", s.N, name, i, got, found, want, is)
	}
}

func TestNeighboursOfAMember(t *testing.T) {
	// Next may be the number itself, Before may not.
	s, _ := Of(200, []int{0, 63, 64, 128, 199})
	for _, c := range []struct {
		i, next   int
		hasNext   bool
		before    int
		hasBefore bool
	}{
		{0, 0, true, 0, false}, {1, 63, true, 0, true}, {63, 63, true, 0, true}, {64, 64, true, 63, true}, {65, 128, true, 64, true},
		{128, 128, true, 64, true}, {129, 199, true, 128, true}, {199, 199, true, 128, true}, {200, 0, false, 199, true}, {-1, 0, true, 0, false},
		{math.MinInt, 0, true, 0, false}, {math.MaxInt, 0, false, 199, true},
	} {
		if i, is := Next(s, c.i); i != c.next || is != c.hasNext {
			t.Errorf("Next(%d) = %d %v", c.i, i, is)
		}
		if i, is := Before(s, c.i); i != c.before || is != c.hasBefore {
			t.Errorf("Before(%d) = %d %v", c.i, i, is)
		}
	}
}

func TestRuns(t *testing.T) {
	for _, m := range append(samples(), small()...) {
		if l := Runs(m.s); !slices.Equal(l, m.runs()) {
			t.Errorf("N %d: Runs = %v, not %v", m.s.N, l, m.runs())
		}
	}
	for _, n := range sizes[1:] {
		s, _ := New(n)
		s, _ = Not(s)
		if l := Runs(s); !slices.Equal(l, [][2]int{{0, n}}) {
			t.Errorf("N %d: Runs of all numbers = %v", n, l)
		}
	}
}

// P5.5: sets out of sets.

func TestNot(t *testing.T) {
	for _, m := range append(samples(), small()...) {
		want := choose(m.s.N, func(i int) bool { return !m.in[i] })
		if s, e := Not(m.s); e != api.OK || !same(s, want.s) || !Right(s) {
			t.Errorf("N %d: Not of %v = %v %d", m.s.N, m.s.Words, s.Words, e)
		}
	}
}

// pair is a function of two sets, and whether a number is in what it makes.
type pair struct {
	name string
	f    func(a, b Set) (Set, api.Errno)
	is   func(a, b bool) bool
}

func pairs() []pair {
	return []pair{
		{"Or", Or, func(a, b bool) bool { return a || b }},
		{"And", And, func(a, b bool) bool { return a && b }},
		{"Minus", Minus, func(a, b bool) bool { return a && !b }},
	}
}

func checkPair(t *testing.T, p pair, a, b sample) {
	t.Helper()
	want := choose(a.s.N, func(i int) bool { return p.is(a.in[i], b.in[i]) })
	if s, e := p.f(a.s, b.s); e != api.OK || !same(s, want.s) || !Right(s) {
		t.Errorf("N %d: %s of %v and %v = %v %d", a.s.N, p.name, a.s.Words, b.s.Words, s.Words, e)
	}
}

func TestPairs(t *testing.T) {
	for _, p := range pairs() {
		for _, n := range sizes {
			l := samplesOf(n)
			if n > 2000 {
				l = l[:12]
			}
			for _, a := range l {
				for _, b := range l {
					checkPair(t, p, a, b)
				}
			}
		}
		for _, a := range small() {
			for _, b := range small() {
				if a.s.N == b.s.N && a.s.N < 7 {
					checkPair(t, p, a, b)
				}
			}
		}
	}
}

func TestPairsOfOtherSizes(t *testing.T) {
	for _, p := range pairs() {
		for _, n := range sizes {
			for _, other := range append([]int{n - 1, n + 1}, sizes...) {
				a, e := New(n)
				b, f := New(other)
				if e != api.OK || f != api.OK || n == other {
					continue
				}
				if s, e := p.f(a, b); !zero(s) || e != ErrSize {
					t.Errorf("%s with N %d and %d: %v %d", p.name, n, other, s, e)
				}
			}
		}
	}
}

// What is not right, and errors in their order.

func TestSetsThatAreNotRightHaveNoMembers(t *testing.T) {
	for _, s := range wrong() {
		if n := Count(s); n != 0 {
			t.Errorf("%d, %d words: Count = %d", s.N, len(s.Words), n)
		}
		if l := Members(s); len(l) != 0 {
			t.Errorf("%d, %d words: Members = %v", s.N, len(s.Words), l)
		}
		if l := Runs(s); len(l) != 0 {
			t.Errorf("%d, %d words: Runs = %v", s.N, len(s.Words), l)
		}
		for _, i := range append([]int{0, 1, 2, 3, 62, 63, 64, 65, 69, 70, s.N - 1, s.N, MaxN - 1}, far...) {
			if Has(s, i) {
				t.Errorf("%d, %d words: Has(%d)", s.N, len(s.Words), i)
			}
			if n := Rank(s, i); n != 0 {
				t.Errorf("%d, %d words: Rank(%d) = %d", s.N, len(s.Words), i, n)
			}
			for _, f := range []func(Set, int) (int, bool){Select, Next, Before} {
				if got, is := f(s, i); got != 0 || is {
					t.Errorf("%d, %d words: %d = %d %v", s.N, len(s.Words), i, got, is)
				}
			}
		}
	}
}

func TestErrorsOfSetsThatAreNotRight(t *testing.T) {
	good, _ := Of(70, []int{1, 2, 69})
	for _, s := range wrong() {
		for _, i := range append([]int{0, 1, s.N - 1, s.N}, far...) {
			// A number that is not allowed either comes second.
			if got, e := With(s, i); !zero(got) || e != ErrSet {
				t.Errorf("%d, %d words: With(%d) = %v %d", s.N, len(s.Words), i, got, e)
			}
			if got, e := Without(s, i); !zero(got) || e != ErrSet {
				t.Errorf("%d, %d words: Without(%d) = %v %d", s.N, len(s.Words), i, got, e)
			}
		}
		if got, e := Not(s); !zero(got) || e != ErrSet {
			t.Errorf("%d, %d words: Not = %v %d", s.N, len(s.Words), got, e)
		}
		alike := Set{s.N, make([]uint64, 1)}
		if s.N > 0 && s.N <= MaxN {
			alike, _ = New(s.N)
		}
		for _, p := range pairs() {
			// Another N comes second; the same N makes it no better.
			for _, two := range [][2]Set{{s, good}, {good, s}, {s, s}, {s, alike}, {alike, s}, {s, {}}, {{}, s}} {
				if got, e := p.f(two[0], two[1]); !zero(got) || e != ErrSet {
					t.Errorf("%d, %d words: %s = %v %d", s.N, len(s.Words), p.name, got, e)
				}
			}
		}
	}
}

// P5.6: consequences.

func TestMembersAndSetsBelongToOneAnother(t *testing.T) {
	seen := map[string]bool{}
	for _, m := range small() {
		key := string(rune(m.s.N)) + ":"
		for _, i := range Members(m.s) {
			key += string(rune('0' + i))
		}
		if seen[key] {
			t.Errorf("%v: another set has the same members", m.s)
		}
		seen[key] = true
	}
	for _, m := range append(samples(), small()...) {
		if s, e := Of(m.s.N, Members(m.s)); e != api.OK || !same(s, m.s) {
			t.Errorf("N %d: %v %d", m.s.N, s.Words, e)
		}
		if l := Members(m.s); !slices.IsSorted(l) || len(slices.Compact(l)) != Count(m.s) {
			t.Errorf("N %d: Members = %v", m.s.N, l)
		}
	}
}

func TestRankAndSelectAreInverse(t *testing.T) {
	for _, m := range append(samples(), small()...) {
		step := 1
		if m.s.N > 2000 {
			step = 61
		}
		for k := 0; k < Count(m.s); k += step {
			if i, is := Select(m.s, k); !is || Rank(m.s, i) != k || !Has(m.s, i) {
				t.Errorf("N %d: Select(%d) = %d %v, with the rank %d", m.s.N, k, i, is, Rank(m.s, i))
			}
		}
		for i := 0; i < m.s.N; i += step {
			if got, is := Select(m.s, Rank(m.s, i)); Has(m.s, i) && (!is || got != i) {
				t.Errorf("N %d: Select of the rank of %d = %d %v", m.s.N, i, got, is)
			}
		}
	}
}

func TestRunsAreAllNumbersTogether(t *testing.T) {
	for _, m := range append(samples(), small()...) {
		not, e := Not(m.s)
		if e != api.OK {
			t.Fatal(e)
		}
		l := append(Runs(m.s), Runs(not)...)
		slices.SortFunc(l, func(a, b [2]int) int { return a[0] - b[0] })
		end, last := 0, false
		for k, r := range l {
			if r[0] != end || r[1] <= r[0] || k > 0 && Has(m.s, r[0]) == last {
				t.Errorf("N %d: %v after %d", m.s.N, r, end)
			}
			end, last = r[1], Has(m.s, r[0])
		}
		if end != m.s.N {
			t.Errorf("N %d: the runs end at %d", m.s.N, end)
		}
	}
}

// do answers a set that is made of right ones.
func do(t *testing.T, s Set, e api.Errno) Set {
	t.Helper()
	if e != api.OK {
		t.Fatal(e)
	}
	return s
}

func TestLawsOfSets(t *testing.T) {
	for _, n := range sizes {
		l := samplesOf(n)
		for k, m := range l {
			a, b := m.s, l[(k*7+3)%len(l)].s
			x, e := Not(a)
			notA := do(t, x, e)
			x, e = Not(b)
			notB := do(t, x, e)
			x, e = Or(a, b)
			or := do(t, x, e)
			x, e = And(a, b)
			and := do(t, x, e)
			x, e = Minus(a, b)
			minus := do(t, x, e)
			if x, e := Not(notA); e != api.OK || !same(x, a) {
				t.Errorf("N %d: Not of Not", n)
			}
			x, e = Not(or)
			y, f := And(notA, notB)
			if e != api.OK || f != api.OK || !same(x, y) {
				t.Errorf("N %d: Not of Or is not And of the complements", n)
			}
			x, e = Not(and)
			y, f = Or(notA, notB)
			if e != api.OK || f != api.OK || !same(x, y) {
				t.Errorf("N %d: Not of And is not Or of the complements", n)
			}
			if x, e := And(a, notB); e != api.OK || !same(x, minus) {
				t.Errorf("N %d: Minus is not And of the complement", n)
			}
			if Count(or)+Count(and) != Count(a)+Count(b) || Count(minus)+Count(and) != Count(a) || Count(a)+Count(notA) != n {
				t.Errorf("N %d: counts", n)
			}
		}
	}
}

// Arguments and results.

// spare answers a set whose words have others behind them, in the same memory.
func spare(s Set) (Set, []uint64) {
	whole := append(slices.Clone(s.Words), 11, 12, 13)
	return Set{s.N, whole[:len(s.Words)]}, whole
}

func TestArgumentsAreNotModified(t *testing.T) {
	for _, n := range sizes {
		l := samplesOf(n)
		for k, m := range l {
			a, wholeA := spare(m.s)
			b, wholeB := spare(l[(k*5+1)%len(l)].s)
			oldA, oldB := slices.Clone(wholeA), slices.Clone(wholeB)
			for _, i := range []int{-1, 0, n / 2, n - 1, n} {
				With(a, i)
				Without(a, i)
				Has(a, i)
				Rank(a, i)
				Select(a, i)
				Next(a, i)
				Before(a, i)
			}
			Right(a)
			Count(a)
			Members(a)
			Runs(a)
			Not(a)
			for _, p := range pairs() {
				p.f(a, b)
				p.f(a, a)
			}
			if !slices.Equal(wholeA, oldA) || !slices.Equal(wholeB, oldB) {
				t.Errorf("N %d: an argument is modified", n)
			}
		}
		numbers := l[len(l)-1].numbers()
		slices.Reverse(numbers)
		whole := append(numbers, 77)
		old := slices.Clone(whole)
		Of(n, whole[:len(numbers)])
		if !slices.Equal(whole, old) {
			t.Errorf("N %d: the list is modified", n)
		}
	}
}

func TestResultsShareNoMemory(t *testing.T) {
	for _, n := range sizes[1:] {
		l := samplesOf(n)
		for k, m := range l {
			a, _ := spare(m.s)
			b, _ := spare(l[(k*5+1)%len(l)].s)
			results := func() []Set {
				with, _ := With(a, n/2)
				without, _ := Without(a, n/2)
				not, _ := Not(a)
				or, _ := Or(a, b)
				and, _ := And(a, b)
				minus, _ := Minus(a, b)
				itself, _ := Or(a, a)
				none, _ := New(n)
				of, _ := Of(n, m.numbers())
				return []Set{with, without, not, or, and, minus, itself, none, of}
			}
			before, again := results(), results()
			for i, s := range before {
				// All of the memory of a result, its spare capacity too, is turned over.
				for k := range s.Words[:cap(s.Words)] {
					s.Words[:cap(s.Words)][k] ^= math.MaxUint64
				}
				for k, o := range before[i+1:] {
					if !same(o, again[i+1+k]) {
						t.Errorf("N %d: the results %d and %d share memory", n, i, i+1+k)
					}
				}
			}
			if !slices.Equal(a.Words, m.s.Words) || !slices.Equal(b.Words, l[(k*5+1)%len(l)].s.Words) {
				t.Errorf("N %d: a result shares memory with an argument", n)
			}
			for i, s := range results() {
				if !same(s, again[i]) {
					t.Errorf("N %d: the result %d is another one in a second call", n, i)
				}
			}
		}
	}
}

func TestLists(t *testing.T) {
	// Lists are new each time.
	m := choose(1000, func(i int) bool { return i%3 != 0 })
	a, b := Members(m.s), Runs(m.s)
	clear(a)
	clear(b)
	if !slices.Equal(Members(m.s), m.numbers()) || !slices.Equal(Runs(m.s), m.runs()) {
		t.Error("a list is shared")
	}
}

func TestAllNumbersOfAGreatSet(t *testing.T) {
	m := choose(MaxN, func(i int) bool { return i*i%11 < 4 })
	l := m.numbers()
	k := 0
	for i := range MaxN {
		next, before := 0, 0
		if k < len(l) {
			next = l[k]
		}
		if k > 0 {
			before = l[k-1]
		}
		if got, is := Next(m.s, i); Rank(m.s, i) != k || is != (k < len(l)) || got != next {
			t.Fatalf("Rank(%d) = %d, Next %d %v", i, Rank(m.s, i), got, is)
		}
		if got, is := Before(m.s, i); is != (k > 0) || got != before {
			t.Fatalf("Before(%d) = %d %v", i, got, is)
		}
		if m.in[i] {
			k++
		}
	}
}
