package shard

import (
	"fmt"
	"iter"
	"locution/api"
	"locution/elias"
	"math"
	"slices"
	"strings"
	"testing"
)

// pair is what one round of a going over tells, and what Next tells.
type pair struct{ at, v int }

// none is what Next tells if there is no such number.
var none = pair{-1, -1}

// mixed is a number from 0 to below bound that looks as if by chance; of each i
// it is the same each time.
func mixed(i, bound int) int {
	x := (uint64(i) + 1) * 0x9e3779b97f4a7c15
	x ^= x >> 31
	x *= 0xbf58476d1ce4e5b9
	x ^= x >> 29
	return int(x % uint64(bound))
}

// steps is n numbers from first on, each so much above the one ahead of it as
// step tells of its place.
func steps(n, first int, step func(i int) int) []int {
	l := make([]int, 0, n)
	v := first
	for i := range n {
		if i > 0 {
			v += step(i)
		}
		l = append(l, v)
	}
	return l
}

// upTo is a step of chance from 0 to most.
func upTo(most int) func(i int) int {
	return func(i int) int { return mixed(i, most+1) }
}

// atTimes is a step of which one in so many is great, and the others are small.
func atTimes(every, great, small int) func(i int) int {
	return func(i int) int {
		if i%every == 0 {
			return great
		}
		return small
	}
}

// byParts is a step by which parts of the kinds that the letters name stand one
// behind the other, again and again: r for Run, a for Alike, and o, s and b for
// Other (some gaps, great gaps, and a run but for its last number); each part
// begins so much above the last number of the one ahead as gap says.
func byParts(letters string, gap int) func(i int) int {
	return func(i int) int {
		at := i % 32
		if at == 0 {
			return gap
		}
		switch letters[i/32%len(letters)] {
		case 'r':
			return 1
		case 'a':
			return 0
		case 's':
			return mixed(i, 1<<25)
		case 'b':
			return 1 + at/31
		}
		return at % 3
	}
}

// kinds are ways to make a sequence of n numbers.
func kinds() map[string]func(n int) []int {
	made := map[string]func(n int) []int{}
	by := func(name string, first int, step func(i int) int) {
		made[name] = func(n int) []int { return steps(n, first, step) }
	}
	by("noughts", 0, upTo(0))
	by("alike, great", api.MaxValue-3, upTo(0))
	by("the greatest", api.MaxValue, upTo(0))
	by("in a row", 0, atTimes(1, 1, 1))
	by("in a row, far on", api.MaxValue-5000, atTimes(1, 1, 1))
	by("by twos", 7, atTimes(1, 2, 2))
	by("small gaps", 0, upTo(1))
	by("some gaps", 3, upTo(9))
	by("great gaps", 0, upTo(1<<28))
	by("alike, with steps across parts", 5, atTimes(70, 1<<20, 0))
	by("rows, with steps across parts", 0, atTimes(45, 1<<20, 1))
	for _, letters := range []string{"r", "a", "o", "s", "b", "ra", "ro", "ao", "oar", "rraaoo", "bras", "ooraaraoor"} {
		for _, gap := range []int{0, 1, 2, 33, 1 << 20} {
			by(fmt.Sprintf("parts %s, a gap of %d", letters, gap), 4, byParts(letters, gap))
		}
	}
	return made
}

// lengths are from none on to some whole parts and a part of fewer.
func lengths() []int {
	return []int{0, 1, 2, 3, 31, 32, 33, 34, 63, 64, 65, 95, 96, 97, 127, 128, 129, 200, 320, 321, 350}
}

// each calls a test for sequences of all kinds and lengths.
func each(t *testing.T, test func(name string, l []int)) {
	t.Helper()
	for kind, made := range kinds() {
		for _, n := range lengths() {
			test(fmt.Sprintf("%s, %d numbers", kind, n), made(n))
		}
	}
}

// seqOf is the sequence of these numbers, which may be.
func seqOf(t *testing.T, l []int) *Seq {
	t.Helper()
	s, e := New(l)
	if e != api.OK || s == nil {
		t.Fatalf("New of %d numbers that may be: %v, error %d", len(l), s, e)
	}
	return s
}

// eliasOf is the sequence of layer 7 of these numbers, which may be.
func eliasOf(t *testing.T, l []int) *elias.Seq {
	t.Helper()
	s, e := elias.New(l)
	if e != api.OK {
		t.Fatalf("elias' New of %v: error %d", l, e)
	}
	return s
}

func plainNext(l []int, v int) pair {
	for i, x := range l {
		if x >= v {
			return pair{i, x}
		}
	}
	return none
}

// next is what Next tells, as one value.
func next(s interface{ Next(int) (int, int) }, v int) pair {
	i, x := s.Next(v)
	return pair{i, x}
}

// plainKind holds each number of a part against what the kind would have there.
func plainKind(l []int) int {
	run, same := true, true
	for i, v := range l {
		run = run && v == l[0]+i
		same = same && v == l[0]
	}
	switch {
	case run:
		return 0
	case same:
		return 1
	}
	return 2
}

// plainParts tells the kinds of the parts, and the sizes of all sequences of
// layer 7 together.
func plainParts(t *testing.T, l []int) (kinds [3]int, size int) {
	t.Helper()
	var firsts []int
	for p := range slices.Chunk(l, 32) {
		firsts = append(firsts, p[0])
		kind := plainKind(p)
		kinds[kind]++
		if kind != 2 {
			continue
		}
		var over []int
		for _, v := range p {
			over = append(over, v-p[0])
		}
		size += eliasOf(t, over).Size()
	}
	return kinds, size + eliasOf(t, firsts).Size()
}

// far are ints that are no places of a list of n numbers.
func far(n int) []int {
	return []int{math.MinInt, math.MinInt + 1, math.MinInt32, -1 << 40, -33, -32, -31, -2, -1,
		n, n + 1, n + 31, n + 32, n + 33, n + 512, math.MaxInt32, 1 << 40, 1 << 62, math.MaxInt - 1, math.MaxInt}
}

// values are numbers that are asked for: out of all bounds, at the first, the
// second and the last number of each part and in its midst, just below and above
// these, and between two.
func values(l []int) []int {
	out := []int{math.MinInt, math.MinInt + 1, math.MinInt32, -1 << 40, -2, -1, 0, 1, 2, 31, 32, 33, 1 << 20, 1 << 30,
		api.MaxValue - 1, api.MaxValue, api.MaxValue + 1, 1 << 41, 1 << 62, math.MaxInt - 1, math.MaxInt}
	for i, v := range l {
		switch i % 32 {
		case 0, 1, 2, 16, 29, 30, 31:
			out = append(out, v-1, v, v+1, v+32)
		}
		if i > 0 {
			out = append(out, (l[i-1]+v)/2)
		}
	}
	if len(l) > 0 {
		last := l[len(l)-1]
		out = append(out, last-1, last, last+1, last+31, last+32, last+33)
	}
	slices.Sort(out)
	return slices.Compact(out)
}

// roundsUpTo lists what a going over tells, and ends it in the round stop, if it
// comes so far.
func roundsUpTo(seq iter.Seq2[int, int], stop int) []pair {
	var pairs []pair
	for i, v := range seq {
		pairs = append(pairs, pair{i, v})
		if len(pairs) == stop {
			break
		}
	}
	return pairs
}

// whole lists all that a going over tells.
func whole(seq iter.Seq2[int, int]) []pair { return roundsUpTo(seq, -1) }

// pairsOf lists what All has to tell of these numbers.
func pairsOf(l []int) []pair {
	var pairs []pair
	for i, v := range l {
		pairs = append(pairs, pair{i, v})
	}
	return pairs
}

// check holds all that s tells against the numbers, looked at one by one.
func check(t *testing.T, name string, s *Seq, l []int) {
	t.Helper()
	if s.Len() != len(l) {
		t.Fatalf("%s: Len = %d, want %d", name, s.Len(), len(l))
	}
	for i, want := range l {
		if got := s.At(i); got != want {
			t.Fatalf("%s: At(%d) = %d, want %d", name, i, got, want)
		}
	}
	for _, i := range far(len(l)) {
		if got := s.At(i); got != -1 {
			t.Fatalf("%s: At(%d) = %d, want -1", name, i, got)
		}
	}
	for _, v := range values(l) {
		if got, want := next(s, v), plainNext(l, v); got != want {
			t.Fatalf("%s: Next(%d) = %v, want %v", name, v, got, want)
		}
	}
	if got := whole(s.All()); !slices.Equal(got, pairsOf(l)) {
		t.Fatalf("%s: All tells %v, want %v", name, got, l)
	}
	kinds, size := plainParts(t, l)
	if s.Kinds() != kinds || s.Size() != size {
		t.Fatalf("%s: Kinds %v, Size %d, want %v, %d", name, s.Kinds(), s.Size(), kinds, size)
	}
}

// The chapter's example.
func TestExample(t *testing.T) {
	l := append(steps(32, 1, upTo1), 7000, 7000)
	s := seqOf(t, l)
	if s.Kinds() != [3]int{1, 1, 0} || s.At(32) != 7000 || next(s, 33) != (pair{32, 7000}) {
		t.Errorf("Kinds %v, At(32) %d, Next(33) %v", s.Kinds(), s.At(32), next(s, 33))
	}
	check(t, "example", s, l)
}

// upTo1 is the step of a run.
func upTo1(int) int { return 1 }

// The numbers by which the chapter names a part's length and its kinds.
func TestConstants(t *testing.T) {
	if Part != 32 || Run != 0 || Alike != 1 || Other != 2 {
		t.Errorf("Part %d, Run %d, Alike %d, Other %d", Part, Run, Alike, Other)
	}
}

// P8.1, P8.2: sequences of parts of each kind, and of unlike kinds one behind
// the other.
func TestAgainstPlainNumbers(t *testing.T) {
	each(t, func(name string, l []int) { check(t, name, seqOf(t, l), l) })
}

// P8.1: every number about short sequences, of parts of all kinds, is asked for.
func TestEveryNumber(t *testing.T) {
	for _, letters := range []string{"r", "a", "o", "b", "rao", "aor", "bra", "roa"} {
		for _, gap := range []int{0, 1, 2, 5, 40} {
			for _, n := range []int{1, 2, 31, 32, 33, 40, 64, 65, 90, 97} {
				l := steps(n, 3, byParts(letters, gap))
				s := seqOf(t, l)
				for v := -3; v < l[n-1]+70; v++ {
					if got, want := next(s, v), plainNext(l, v); got != want {
						t.Fatalf("parts %s, a gap of %d, %d numbers: Next(%d) = %v, want %v", letters, gap, n, v, got, want)
					}
				}
			}
		}
	}
}

// P8.1: which error is told: the first wrong number's, and of one number
// ErrRange ahead of ErrOrder.
func TestNewErrors(t *testing.T) {
	const top = api.MaxValue
	for _, c := range []struct {
		l    []int
		want api.Errno
	}{
		{[]int{-1}, api.ErrRange},
		{[]int{math.MinInt}, api.ErrRange},
		{[]int{top + 1}, api.ErrRange},
		{[]int{math.MaxInt}, api.ErrRange},
		{[]int{0, top + 1}, api.ErrRange},
		// In a row, but for its bounds.
		{[]int{-1, 0, 1}, api.ErrRange},
		{[]int{top - 1, top, top + 1}, api.ErrRange},
		{[]int{top + 1, top + 1}, api.ErrRange},
		{[]int{1, 0}, api.ErrOrder},
		{[]int{top, 0}, api.ErrOrder},
		{[]int{1, 2, 2, 1}, api.ErrOrder},
		// Two wrongs, the first one by place is told.
		{[]int{5, 4, -1}, api.ErrOrder},
		{[]int{5, 4, top + 1}, api.ErrOrder},
		{[]int{-1, 5, 4}, api.ErrRange},
		{[]int{1, top + 1, 0}, api.ErrRange},
		// Two wrongs of one number.
		{[]int{0, -1}, api.ErrRange},
		{[]int{7, math.MinInt}, api.ErrRange},
	} {
		s, e := New(c.l)
		if s != nil || e != c.want {
			t.Errorf("New(%v) = %v, error %d, want nil, error %d", c.l, s, e, c.want)
		}
	}
}

// P8.1: numbers at the bounds are none too few and none too many.
func TestBounds(t *testing.T) {
	const top = api.MaxValue
	for _, l := range [][]int{{0}, {top}, {0, top}, {0, 0, top, top}, {top - 1, top}, append(make([]int, 32), top), append(make([]int, 31), top), append(make([]int, 40), top)} {
		check(t, fmt.Sprint(l), seqOf(t, l), l)
	}
}

// P8.1: one wrong number, or two, within a part, at its last place, and at the
// first place of one, told as elias tells it.
func TestNewErrorsAtParts(t *testing.T) {
	places := []int{1, 16, 31, 32, 33, 63, 64, 65, 95, 96, 99}
	wrong := []int{-1, 0, api.MaxValue + 1, math.MinInt, math.MaxInt}
	for _, letters := range []string{"r", "a", "o", "rao"} {
		for _, at := range places {
			for _, v := range wrong {
				for _, at2 := range places {
					l := steps(100, 9, byParts(letters, 3))
					l[at2] = 8 - at2%3*9
					l[at] = v
					_, want := elias.New(l)
					first := api.ErrOrder
					if x := l[min(at, at2)]; x < 0 || x > api.MaxValue {
						first = api.ErrRange
					}
					if s, e := New(l); s != nil || e != want || e != first {
						t.Fatalf("%s, %d at %d, %d at %d: %v, error %d, want nil, error %d", letters, v, at, l[at2], at2, s, e, first)
					}
				}
			}
		}
	}
}

// P8.1: a number that is below the one ahead at the first place of a part, where
// the parts themselves do not fall.
func TestFallBetweenParts(t *testing.T) {
	l := append(steps(32, 100, upTo1), steps(32, 110, upTo1)...)
	if s, e := New(l); s != nil || e != api.ErrOrder {
		t.Errorf("a part that begins below the last number ahead: %v, error %d", s, e)
	}
	l = append(steps(32, 100, upTo1), steps(32, 131, upTo1)...)
	s := seqOf(t, l)
	check(t, "a part that begins with the last number ahead", s, l)
	if s.Kinds() != [3]int{2, 0, 0} || next(s, 131) != (pair{31, 131}) || next(s, 132) != (pair{33, 132}) {
		t.Errorf("Kinds %v, Next(131) %v, Next(132) %v", s.Kinds(), next(s, 131), next(s, 132))
	}
}

// P8.1: the list is neither changed nor kept.
func TestListNotKept(t *testing.T) {
	each(t, func(name string, l []int) {
		in := slices.Clone(l)
		s := seqOf(t, in)
		if !slices.Equal(in, l) {
			t.Fatalf("%s: the list was changed", name)
		}
		for i := range in {
			in[i] = -7
		}
		if got := whole(s.All()); !slices.Equal(got, pairsOf(l)) {
			t.Fatalf("%s: with the list changed behind it All tells %v", name, got)
		}
	})
	l := []int{4, 9, -2, 3}
	New(l)
	if !slices.Equal(l, []int{4, 9, -2, 3}) {
		t.Errorf("a wrong list was changed: %v", l)
	}
}

// P8.1: what lies behind the list's length is neither read nor written.
func TestBehindTheList(t *testing.T) {
	all := append(steps(40, 2, upTo1), -5, 3)
	s := seqOf(t, all[:40])
	check(t, "cut to 40", s, steps(40, 2, upTo1))
	if all[40] != -5 || all[41] != 3 {
		t.Errorf("behind the list: %v", all[40:])
	}
}

// P8.1: At, told by hand, at both ends of parts of each kind.
func TestAtByHand(t *testing.T) {
	// 32 in a row from 10 on, 32 times 50, 0 to 62 by twos above 100, and 999.
	l := append(steps(32, 10, upTo1), steps(32, 50, upTo(0))...)
	l = append(l, steps(32, 100, atTimes(1, 2, 2))...)
	l = append(l, 999)
	s := seqOf(t, l)
	for i, want := range map[int]int{math.MinInt: -1, -32: -1, -1: -1, 0: 10, 1: 11, 31: 41, 32: 50, 33: 50, 63: 50, 64: 100, 65: 102, 95: 162, 96: 999,
		97: -1, 127: -1, 128: -1, math.MaxInt: -1} {
		if got := s.At(i); got != want {
			t.Errorf("At(%d) = %d, want %d", i, got, want)
		}
	}
	if s.Len() != 97 || s.Kinds() != [3]int{2, 1, 1} {
		t.Errorf("Len %d, Kinds %v", s.Len(), s.Kinds())
	}
}

// P8.1: Next, told by hand, at and about the numbers of parts of each kind.
func TestNextByHand(t *testing.T) {
	l := append(steps(32, 10, upTo1), steps(32, 50, upTo(0))...)
	l = append(l, steps(32, 100, atTimes(1, 2, 2))...)
	l = append(l, 999, 1000)
	s := seqOf(t, l)
	for _, c := range []struct {
		v    int
		want pair
	}{
		// Below all, and in the run.
		{math.MinInt, pair{0, 10}}, {-1, pair{0, 10}}, {0, pair{0, 10}}, {9, pair{0, 10}}, {10, pair{0, 10}}, {11, pair{1, 11}}, {40, pair{30, 40}}, {41, pair{31, 41}},
		// Between two parts, and at numbers alike.
		{42, pair{32, 50}}, {43, pair{32, 50}}, {49, pair{32, 50}}, {50, pair{32, 50}}, {51, pair{64, 100}}, {99, pair{64, 100}},
		// At the numbers of the third part, and between two of them.
		{100, pair{64, 100}}, {101, pair{65, 102}}, {102, pair{65, 102}}, {161, pair{95, 162}}, {162, pair{95, 162}}, {163, pair{96, 999}},
		// The last part is a run that has but two.
		{998, pair{96, 999}}, {999, pair{96, 999}}, {1000, pair{97, 1000}}, {1001, none}, {1002, none}, {1030, none}, {1031, none}, {1032, none},
		{api.MaxValue, none}, {api.MaxValue + 1, none}, {math.MaxInt - 1, none}, {math.MaxInt, none},
	} {
		if got := next(s, c.v); got != c.want {
			t.Errorf("Next(%d) = %v, want %v", c.v, got, c.want)
		}
	}
}

// P8.1: of numbers alike that go over several parts the first one is told, also
// if it stands in the midst of a part of another kind.
func TestNextOfManyAlike(t *testing.T) {
	for _, first := range []int{0, 1, 15, 31, 32, 33, 64} {
		for _, many := range []int{1, 32, 64, 100} {
			l := append(steps(first, 1, upTo1), steps(many, 200, upTo(0))...)
			l = append(l, steps(50, 201, upTo(3))...)
			s := seqOf(t, l)
			if next(s, 200) != (pair{first, 200}) || next(s, 199) != (pair{first, 200}) || next(s, 201) != (pair{first + many, 201}) {
				t.Errorf("%d alike from %d on: %v, %v, %v", many, first, next(s, 199), next(s, 200), next(s, 201))
			}
			check(t, fmt.Sprintf("%d alike from %d on", many, first), s, l)
		}
	}
}

// P8.2: kinds and sizes told by hand.
func TestKindsAndSizeByHand(t *testing.T) {
	row := func(n int) []int { return steps(n, 0, upTo1) }
	for _, c := range []struct {
		name  string
		l     []int
		kinds [3]int
		size  int
	}{
		{"none", nil, [3]int{}, 0},
		// A part of one number is a run, though its numbers are alike, too.
		{"a nought", []int{0}, [3]int{1, 0, 0}, 1},
		{"a number", []int{5}, [3]int{1, 0, 0}, 4},
		{"two alike", []int{5, 5}, [3]int{0, 1, 0}, 4},
		{"two in a row", []int{5, 6}, [3]int{1, 0, 0}, 4},
		{"two apart", []int{5, 7}, [3]int{0, 0, 1}, 4 + 4},
		{"four of others", []int{5, 9, 9, 12}, [3]int{0, 0, 1}, 4 + 11},
		{"the example", append(steps(32, 1, upTo1), 7000, 7000), [3]int{1, 1, 0}, 27},
		{"noughts", make([]int, 1000), [3]int{0, 32, 0}, 32},
		{"noughts, the last part has one", make([]int, 33), [3]int{1, 1, 0}, 2},
		{"in a row", row(1024), [3]int{32, 0, 0}, 4*32 + 62 + 32},
		{"31 in a row", row(31), [3]int{1, 0, 0}, 1},
		{"32 in a row", row(32), [3]int{1, 0, 0}, 1},
		{"33 in a row", row(33), [3]int{2, 0, 0}, 4*2 + 2 + 2},
		// In a row but for the last number, and alike but for it.
		{"a run that ends with a gap", append(row(31), 32), [3]int{0, 0, 1}, 1 + 32 + 32},
		{"a run that ends with two alike", append(row(31), 30), [3]int{0, 0, 1}, 1 + 30 + 32},
		{"noughts that end with a one", append(make([]int, 31), 1), [3]int{0, 0, 1}, 1 + 1 + 32},
		{"noughts and then a row", append(make([]int, 1), row(31)...), [3]int{0, 0, 1}, 1 + 30 + 32},
		// So within the parts, but not from one to the next.
		{"two runs", append(row(32), row32(40)...), [3]int{2, 0, 0}, 4*2 + 2 + 2},
		{"two runs, the first ends as the second begins", append(row(32), row32(31)...), [3]int{2, 0, 0}, 3*2 + 3 + 2},
		{"twice alike", append(make([]int, 32), steps(32, 9, upTo(0))...), [3]int{0, 2, 0}, 2*2 + 2 + 2},
		// So, but across the parts.
		{"a row that begins late", append(make([]int, 16), row(32)...), [3]int{1, 0, 1}, 3*2 + 2 + 2 + 15 + 32},
	} {
		s := seqOf(t, c.l)
		if s.Kinds() != c.kinds || s.Size() != c.size {
			t.Errorf("%s: Kinds %v, Size %d, want %v, %d", c.name, s.Kinds(), s.Size(), c.kinds, c.size)
		}
		check(t, c.name, s, c.l)
	}
}

// row32 is 32 numbers in a row.
func row32(first int) []int { return steps(32, first, upTo1) }

// P8.2: how many parts of each kind there are, counted by the letters that made
// them.
func TestKindsByLetters(t *testing.T) {
	for _, letters := range []string{"r", "a", "o", "ra", "ar", "oar", "rraaoo", "bras", "ooraaraoor"} {
		for _, times := range []int{1, 2, 5} {
			l := steps(32*times*len(letters), 4, byParts(letters, 6))
			runs, alikes := strings.Count(letters, "r"), strings.Count(letters, "a")
			want := [3]int{runs * times, alikes * times, (len(letters) - runs - alikes) * times}
			if got := seqOf(t, l).Kinds(); got != want {
				t.Errorf("%d times %s: Kinds %v, want %v", times, letters, got, want)
			}
		}
	}
}

// P8.2: what Kinds answers is the caller's own.
func TestKindsAreOwn(t *testing.T) {
	s := seqOf(t, row32(0))
	k := s.Kinds()
	k[0] = 99
	if s.Kinds() != [3]int{1, 0, 0} {
		t.Errorf("Kinds changed from without: %v", s.Kinds())
	}
}

// P8.1, P8.2: a nil sequence has no numbers.
func TestNil(t *testing.T) {
	var s *Seq
	check(t, "nil", s, nil)
	if s.All() == nil {
		t.Error("All of nil is no function")
	}
	for _, v := range far(0) {
		if next(s, v) != none || s.At(v) != -1 {
			t.Errorf("of %d: Next %v, At %d", v, next(s, v), s.At(v))
		}
	}
	if s.Len() != 0 || s.At(0) != -1 || s.Size() != 0 || s.Kinds() != [3]int{} {
		t.Error("Len, At, Size or Kinds of nil")
	}
}

// P8.1, P8.2: the sequence of no numbers is one, and All of it a function.
func TestNoNumbers(t *testing.T) {
	for name, l := range map[string][]int{"nil": nil, "empty": {}, "cut to none": []int{5, 3}[:0]} {
		s := seqOf(t, l)
		check(t, name, s, nil)
		if s.All() == nil {
			t.Errorf("%s: All is no function", name)
		}
	}
}

// P8.1: one going over is gone over twice, wholly, and behind one that was ended
// early: in its first round, at the end of a part and in the midst of one.
func TestAllAgain(t *testing.T) {
	each(t, func(name string, l []int) {
		s := seqOf(t, l)
		all := s.All()
		want := pairsOf(l)
		for round, stop := range []int{1, 2, 31, 32, 33, 40, 64, len(l)/2 + 1, len(l), -1, -1, 1, -1} {
			part := want
			if stop >= 0 {
				part = want[:min(stop, len(want))]
			}
			if got := roundsUpTo(all, stop); !slices.Equal(got, part) {
				t.Fatalf("%s: All, gone over for the time %d, ended in its round %d: %v, want %v", name, round, stop, got, part)
			}
		}
	})
}

// P8.1: behind an early end nothing more is told.
func TestAllEndedEarly(t *testing.T) {
	each(t, func(name string, l []int) {
		s := seqOf(t, l)
		for _, i := range []int{0, 1, 15, 30, 31, 32, 33, 63, 64, len(l) - 2, len(l) - 1} {
			if i < 0 || i >= len(l) {
				continue
			}
			calls := 0
			s.All()(func(at, v int) bool {
				calls++
				return calls <= i
			})
			if calls != i+1 {
				t.Fatalf("%s: All, ended in its round %d, told %d", name, i+1, calls)
			}
		}
	})
}

// P8.1: one going over within another of the same function begins on its own.
func TestAllWithin(t *testing.T) {
	l := steps(110, 4, byParts("oar", 6))
	all := seqOf(t, l).All()
	var outer []pair
	for i, v := range all {
		outer = append(outer, pair{i, v})
		if inner := whole(all); !slices.Equal(inner, pairsOf(l)) {
			t.Fatalf("within the round %d: %v", i, inner)
		}
	}
	if !slices.Equal(outer, pairsOf(l)) {
		t.Errorf("the outer one: %v", outer)
	}
}

// P8.3: whatever the parts are, it tells the same as a sequence of layer 7.
func TestSameAsElias(t *testing.T) {
	each(t, func(name string, l []int) { checkSame(t, name, seqOf(t, l), eliasOf(t, l), l) })
	checkSame(t, "nil", nil, nil, nil)
}

func checkSame(t *testing.T, name string, s *Seq, e *elias.Seq, l []int) {
	t.Helper()
	if s.Len() != e.Len() {
		t.Fatalf("%s: Len %d, that of layer 7 %d", name, s.Len(), e.Len())
	}
	for i := -3; i < len(l)+40; i++ {
		if s.At(i) != e.At(i) {
			t.Fatalf("%s: At(%d) %d, that of layer 7 %d", name, i, s.At(i), e.At(i))
		}
	}
	for _, i := range far(len(l)) {
		if s.At(i) != e.At(i) {
			t.Fatalf("%s: At(%d) %d, that of layer 7 %d", name, i, s.At(i), e.At(i))
		}
	}
	for _, v := range values(l) {
		if next(s, v) != next(e, v) {
			t.Fatalf("%s: Next(%d) %v, that of layer 7 %v", name, v, next(s, v), next(e, v))
		}
	}
	if got, want := whole(s.All()), whole(e.All()); !slices.Equal(got, want) {
		t.Fatalf("%s: All tells %v, that of layer 7 %v", name, got, want)
	}
}

// P8.3: the errors are those of layer 7, too, for short lists of all sorts.
func TestErrorsSameAsElias(t *testing.T) {
	some := []int{math.MinInt, -1, 0, 1, 2, api.MaxValue, api.MaxValue + 1, math.MaxInt}
	for _, a := range some {
		for _, b := range some {
			for _, c := range some {
				l := []int{a, b, c}
				s, e := New(l)
				_, want := elias.New(l)
				if e != want || (s == nil) != (e != api.OK) {
					t.Fatalf("New(%v) = %v, error %d, that of layer 7 %d", l, s, e, want)
				}
			}
		}
	}
}

// A sequence of many parts, asked for all its numbers and all between two.
func TestManyParts(t *testing.T) {
	for name, step := range map[string]func(int) int{"dense": upTo(2), "sparse": upTo(5000), "of all kinds": byParts("ooraaraoor", 1)} {
		l := steps(60_000, 0, step)
		s, e := seqOf(t, l), eliasOf(t, l)
		rounds := 0
		for i, v := range s.All() {
			rounds++
			if v != l[i] || s.At(i) != v {
				t.Fatalf("%s: the place %d: All %d, At %d, want %d", name, i, v, s.At(i), l[i])
			}
			if next(s, v) != next(e, v) || next(s, v+1) != next(e, v+1) {
				t.Fatalf("%s: Next(%d) %v, Next(%d) %v, those of layer 7 %v, %v", name, v, next(s, v), v+1, next(s, v+1), next(e, v), next(e, v+1))
			}
		}
		if rounds != len(l) {
			t.Errorf("%s: All told %d numbers of %d", name, rounds, len(l))
		}
	}
}
