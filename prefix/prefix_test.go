package prefix

import (
	"fmt"
	"iter"
	"locution/api"
	"locution/elias"
	"math"
	"slices"
	"testing"
)

const (
	top   = api.MaxValue
	least = math.MinInt
	most  = math.MaxInt
)

// pair is what one round of a going over tells.
type pair struct{ at, v int }

// mixed is a number from 0 to below bound that looks as if by chance; of each i
// it is the same each time.
func mixed(i, bound int) int {
	x := (uint64(i) + 1) * 0x9e3779b97f4a7c15
	x ^= x >> 31
	x *= 0xbf58476d1ce4e5b9
	x ^= x >> 29
	return int(x % uint64(bound))
}

// atPlace is a number at the one place, and 0 at others.
func atPlace(i, place, v int) int {
	if i == place {
		return v
	}
	return 0
}

// but is v where it holds, and 0 elsewhere.
func but(holds bool, v int) int {
	if holds {
		return v
	}
	return 0
}

// kinds are ways to tell the i-th of n numbers.
func kinds() map[string]func(i, n int) int {
	return map[string]func(i, n int) int{
		"noughts":                func(i, n int) int { return 0 },
		"ones":                   func(i, n int) int { return 1 },
		"alike":                  func(i, n int) int { return 9 },
		"rising":                 func(i, n int) int { return i },
		"falling":                func(i, n int) int { return n - i },
		"noughts and ones":       func(i, n int) int { return mixed(i, 2) },
		"small":                  func(i, n int) int { return mixed(i, 10) },
		"seldom":                 func(i, n int) int { return but(mixed(i, 40) == 0, 5) },
		"wide":                   func(i, n int) int { return mixed(i, 100_000) },
		"great":                  func(i, n int) int { return mixed(i, 1<<29) },
		"one great, first":       func(i, n int) int { return atPlace(i, 0, top) },
		"one great, midst":       func(i, n int) int { return atPlace(i, n/2, top) },
		"one great, last":        func(i, n int) int { return atPlace(i, n-1, top) },
		"one unit, first":        func(i, n int) int { return atPlace(i, 0, 1) },
		"one unit, midst":        func(i, n int) int { return atPlace(i, n/2, 1) },
		"one unit, last":         func(i, n int) int { return atPlace(i, n-1, 1) },
		"noughts first":          func(i, n int) int { return but(i > n/3, 1+mixed(i, 6)) },
		"noughts last":           func(i, n int) int { return but(i < n/3, 1+mixed(i, 6)) },
		"noughts between":        func(i, n int) int { return but(i < n/3 || i > n/2, 1+mixed(i, 6)) },
		"noughts first and last": func(i, n int) int { return but(i > n/3 && i < n/2, 1+mixed(i, 6)) },
		"every other":            func(i, n int) int { return but(i%2 == 1, 1+mixed(i, 300)) },
	}
}

// lengths are from none on to such as need several spans of a directory.
func lengths() []int {
	return []int{0, 1, 2, 3, 4, 5, 7, 8, 9, 31, 33, 63, 64, 65, 127, 128, 200, 255, 256, 257, 511, 512, 513, 1400}
}

// each calls a test for sequences of all kinds and lengths.
func each(t *testing.T, test func(name string, l []int)) {
	t.Helper()
	for kind, at := range kinds() {
		for _, n := range lengths() {
			l := make([]int, n)
			for i := range l {
				l[i] = at(i, n)
			}
			test(fmt.Sprintf("%s, %d numbers", kind, n), l)
		}
	}
}

// seqOf is the sequence of these numbers, which may be.
func seqOf(t *testing.T, l []int) *Seq {
	t.Helper()
	s, e := New(l)
	if e != api.OK || s == nil {
		t.Fatalf("New of %d numbers that may be: %v, error %d", len(l), s, e)
	}
	return s
}

// plainSum adds up number by number.
func plainSum(l []int, lo, hi int) int {
	sum := 0
	for i, v := range l {
		if i >= lo && i < hi {
			sum += v
		}
	}
	return sum
}

// plainWhere takes the units of each number off.
func plainWhere(l []int, t int) int {
	if t < 0 {
		return -1
	}
	for i, v := range l {
		if t < v {
			return i
		}
		t -= v
	}
	return -1
}

// plainSize is the Size of the sums, as layer 7 has it.
func plainSize(t *testing.T, l []int) int {
	t.Helper()
	sums := []int{0}
	for i := range l {
		sums = append(sums, sums[i]+l[i])
	}
	s, e := elias.New(sums)
	if e != api.OK {
		t.Fatalf("elias' New of the sums of %d numbers: error %d", len(l), e)
	}
	return s.Size()
}

// far are ints that are no places of a list of n numbers.
func far(n int) []int {
	return []int{least, least + 1, math.MinInt32, -1 << 40, -65, -64, -2, -1,
		n, n + 1, n + 2, n + 63, n + 64, n + 512, math.MaxInt32, 1 << 40, 1 << 58, 1 << 62, most - 1, most}
}

// bounds are places that a part may have as its bounds: among those of n numbers,
// next to them and far away.
func bounds(n int) []int {
	out := append(far(n), 0, 1, 2, n/3, n/2, n-3, n-2, n-1)
	slices.Sort(out)
	return slices.Compact(out)
}

// units are numbers of units that are asked for: out of all bounds, the first
// and the last one of each number, and those next to them.
func units(l []int) []int {
	out := []int{least, least + 1, math.MinInt32, -1 << 40, -2, -1, 0, 1, 2, 63, 64, 1 << 20, 1 << 30,
		top - 1, top, top + 1, 1 << 41, 1 << 62, most - 1, most}
	sum := 0
	for _, v := range l {
		out = append(out, sum-1, sum, sum+1, sum+v/2)
		sum += v
	}
	out = append(out, sum-2, sum-1, sum, sum+1, sum+2)
	slices.Sort(out)
	return slices.Compact(out)
}

// roundsUpTo lists what a going over tells, and ends it in the round stop, if it
// comes so far.
func roundsUpTo(seq iter.Seq2[int, int], stop int) []pair {
	var pairs []pair
	for i, v := range seq {
		pairs = append(pairs, pair{i, v})
		if len(pairs) == stop {
			break
		}
	}
	return pairs
}

// all lists all that a going over tells.
func all(seq iter.Seq2[int, int]) []pair { return roundsUpTo(seq, -1) }

// pairsOf lists what All has to tell of these numbers.
func pairsOf(l []int) []pair {
	var pairs []pair
	for i, v := range l {
		pairs = append(pairs, pair{i, v})
	}
	return pairs
}

// check holds all that s tells against the numbers, looked at one by one.
func check(t *testing.T, name string, s *Seq, l []int) {
	t.Helper()
	checkNumbers(t, name, s, l)
	checkSums(t, name, s, l)
	checkUnits(t, name, s, l)
	if got := all(s.All()); !slices.Equal(got, pairsOf(l)) {
		t.Fatalf("%s: All tells %v, want %v", name, got, l)
	}
}

func checkNumbers(t *testing.T, name string, s *Seq, l []int) {
	t.Helper()
	for i, want := range l {
		if got := s.At(i); got != want {
			t.Fatalf("%s: At(%d) = %d, want %d", name, i, got, want)
		}
	}
	for _, i := range far(len(l)) {
		if got := s.At(i); got != -1 {
			t.Fatalf("%s: At(%d) = %d, want -1", name, i, got)
		}
	}
	if s.Len() != len(l) || s.Total() != plainSum(l, 0, len(l)) {
		t.Fatalf("%s: Len %d, Total %d, want %d, %d", name, s.Len(), s.Total(), len(l), plainSum(l, 0, len(l)))
	}
}

func checkSums(t *testing.T, name string, s *Seq, l []int) {
	t.Helper()
	for _, lo := range bounds(len(l)) {
		for _, hi := range bounds(len(l)) {
			if got, want := s.Sum(lo, hi), plainSum(l, lo, hi); got != want {
				t.Fatalf("%s: Sum(%d, %d) = %d, want %d", name, lo, hi, got, want)
			}
		}
	}
}

func checkUnits(t *testing.T, name string, s *Seq, l []int) {
	t.Helper()
	for _, u := range units(l) {
		if got, want := s.Where(u), plainWhere(l, u); got != want {
			t.Fatalf("%s: Where(%d) = %d, want %d", name, u, got, want)
		}
	}
}

// The chapter's example.
func TestExample(t *testing.T) {
	l := []int{2, 0, 3}
	s := seqOf(t, l)
	if s.Total() != 5 || s.Sum(1, 3) != 3 {
		t.Errorf("Total %d, Sum(1, 3) %d, want 5, 3", s.Total(), s.Sum(1, 3))
	}
	if s.Where(1) != 0 || s.Where(2) != 2 || s.Where(5) != -1 {
		t.Errorf("Where(1) %d, Where(2) %d, Where(5) %d, want 0, 2, -1", s.Where(1), s.Where(2), s.Where(5))
	}
	if s.Size() != 9 {
		t.Errorf("Size %d, want that of 0, 2, 2, 5: 9", s.Size())
	}
	if sums, ok := sumsOf(l, top); !ok || !slices.Equal(sums, []int{0, 2, 2, 5}) {
		t.Errorf("sums %v, want 0, 2, 2, 5", sums)
	}
	check(t, "example", s, l)
}

// P9.1, P9.2: sequences of all kinds, longer than one span of a directory among
// them, with many noughts and with none.
func TestAgainstPlainNumbers(t *testing.T) {
	each(t, func(name string, l []int) {
		s := seqOf(t, l)
		check(t, name, s, l)
		if got, want := s.Size(), plainSize(t, l); got != want {
			t.Fatalf("%s: Size = %d, want %d", name, got, want)
		}
	})
}

// short are lists that stand for one edge each.
func short() map[string][]int {
	return map[string][]int{
		"one nought": {0}, "one unit": {1}, "one number": {5}, "two noughts": {0, 0}, "noughts alone": {0, 0, 0, 0, 0},
		"a nought first": {0, 4}, "noughts first": {0, 0, 0, 4, 1}, "a nought last": {4, 0}, "noughts last": {1, 4, 0, 0, 0},
		"a nought between": {3, 0, 2}, "noughts between": {3, 0, 0, 0, 2}, "noughts about one": {0, 0, 3, 0, 0},
		"noughts all over": {0, 2, 0, 0, 1, 0, 7, 1, 0}, "units": {1, 1, 1, 1}, "falling": {64, 9, 3, 1}, "rising": {1, 3, 9, 64},
	}
}

// P9.1, P9.2: every place, part and unit of short sequences is asked for.
func TestEveryPlace(t *testing.T) {
	for name, l := range short() {
		s := seqOf(t, l)
		check(t, name, s, l)
		for lo := -3; lo < len(l)+3; lo++ {
			for hi := -3; hi < len(l)+3; hi++ {
				if got, want := s.Sum(lo, hi), plainSum(l, lo, hi); got != want {
					t.Errorf("%s: Sum(%d, %d) = %d, want %d", name, lo, hi, got, want)
				}
			}
		}
		for u := -3; u < s.Total()+3; u++ {
			if got, want := s.Where(u), plainWhere(l, u); got != want {
				t.Errorf("%s: Where(%d) = %d, want %d", name, u, got, want)
			}
		}
	}
}

// P9.1: which lists New refuses.
func TestNewErrors(t *testing.T) {
	for _, l := range [][]int{
		// A number below 0: alone, the first one, in the midst and the last one.
		{-1}, {least}, {least + 1}, {-1 << 40}, {-1, 1}, {least, 1}, {least, most}, {1, -1, 1}, {1, least, 1}, {1, -1}, {1, least}, {0, -1}, {-1, 0},
		{5, 5, -3}, {5, 5, -10}, {top, -1}, {least, least},
		// All together within the bounds, but for one that is below 0.
		{top, top, -top}, {top + 1, -1}, {-1, top + 1}, {most, least}, {most, -most, 0},
		// One above the limit.
		{top + 1}, {most}, {most - 1}, {0, top + 1}, {top + 1, 0}, {0, most, 0},
		// One more than the limit together.
		{top, 1}, {1, top}, {top - 1, 2}, {top / 2, top/2 + 1}, {top - 1, 1, 1}, {1, 0, top - 1, 0, 1}, {top, 0, 0, 1},
		// Each within the limit, and together above it.
		{top, top}, {top, top, top}, {top / 2, top / 2, top / 2}, {top - 1, top - 1},
		// The sum is above the greatest int: it would wrap round to below 0, to 0
		// and to one within the limit.
		{most, 1}, {1, most}, {most, most}, {most, most, 2}, {most, most, 3}, {1 << 62, 1 << 62}, {1 << 62, 1 << 62, 1 << 62, 1 << 62}, {1 << 62, 1 << 62, 1 << 62, 1 << 62, 7},
		// Below 0 behind such as are above the limit together.
		{top, 1, -1}, {top, top, least}, {most, most, -1}, {most, 1, least}, {top + 1, -5},
	} {
		s, e := New(l)
		if s != nil || e != api.ErrRange {
			t.Errorf("New(%v) = %v, error %d, want nil, error %d", l, s, e, api.ErrRange)
		}
	}
}

// P9.1: many numbers, each within the limit, whose sum wraps round, and one that
// is wrong anywhere in a long list.
func TestNewErrorsOfMany(t *testing.T) {
	for _, n := range []int{2, 1 << 10, 1 << 20} {
		l := make([]int, n)
		for i := range l {
			l[i] = top / n
		}
		seqOf(t, l)
		for _, at := range []int{0, 1, n / 2, n - 2, n - 1} {
			for _, wrong := range []int{-1, least, top, top/n + 1, most} {
				was := l[at]
				l[at] = wrong
				if s, e := New(l); s != nil || e != api.ErrRange {
					t.Errorf("%d at the place %d of %d: %v, error %d", wrong, at, n, s, e)
				}
				l[at] = was
			}
		}
	}
	// 2^24 times 2^40 is 2^64: the sum would be 0 again.
	wrapped := make([]int, 1<<24)
	for i := range wrapped {
		wrapped[i] = top
	}
	if s, e := New(wrapped); s != nil || e != api.ErrRange {
		t.Errorf("numbers that come to 2^64: %v, error %d", s, e)
	}
}

// P9.1: numbers that come to just the limit, or less, may be.
func TestNewAtTheBounds(t *testing.T) {
	for _, l := range [][]int{nil, {}, {0}, {1}, {top - 1}, {top}, {top, 0}, {0, top}, {0, top, 0}, {0, 0, 0, top, 0, 0},
		{top - 1, 1}, {1, top - 1}, {1, 0, top - 2, 0, 1}, {top / 2, top / 2}, {top / 2, 0, top/2 - 1}, {top / 4, top / 4, top / 4, top / 4}} {
		check(t, fmt.Sprint(l), seqOf(t, l), l)
	}
}

// P9.1: the numbers are those that were in the list, whatever becomes of it, and
// the list is left as it was; what lies behind its length is not looked at.
func TestListIsNotKept(t *testing.T) {
	each(t, func(name string, l []int) {
		room := append(slices.Clone(l), -7, -8, top)
		handed := room[:len(l)]
		s := seqOf(t, handed)
		if !slices.Equal(room, append(slices.Clone(l), -7, -8, top)) {
			t.Fatalf("%s: the list was changed", name)
		}
		begun := s.All()
		for i := range room {
			room[i] = 1 << 50
		}
		check(t, name+", list changed", s, l)
		if got := all(begun); !slices.Equal(got, pairsOf(l)) {
			t.Fatalf("%s: All that was asked ahead of the change tells %v", name, got)
		}
	})
}

// P9.1: a wrong list is left as it was, too.
func TestWrongListUnchanged(t *testing.T) {
	for _, l := range [][]int{{4, 9, -2, 3}, {top, 1, 1}} {
		was := slices.Clone(l)
		New(l)
		if !slices.Equal(l, was) {
			t.Errorf("the list was changed: %v, was %v", l, was)
		}
	}
}

// P9.1: sums told by hand, with places that there aren't.
func TestSumByHand(t *testing.T) {
	s := seqOf(t, []int{7, 0, 100, 0, 0, 30, 2})
	for _, c := range []struct{ lo, hi, want int }{
		// All, some and one.
		{0, 7, 139}, {0, 1, 7}, {1, 2, 0}, {2, 3, 100}, {6, 7, 2}, {1, 6, 130}, {3, 5, 0}, {2, 7, 132}, {0, 6, 137},
		// None.
		{0, 0, 0}, {3, 3, 0}, {7, 7, 0}, {2, 1, 0}, {7, 0, 0}, {6, 0, 0}, {most, least, 0}, {least, least, 0}, {most, most, 0}, {5, least, 0}, {most, 5, 0},
		// lo below 0, hi behind the end.
		{-1, 1, 7}, {-9, 3, 107}, {least, 7, 139}, {least, 1, 7}, {least, 0, 0}, {5, 8, 32}, {6, 99, 2}, {0, most, 139}, {6, most, 2},
		{-1, 8, 139}, {least, most, 139}, {-most, most, 139},
		// Both below 0, and both behind the end.
		{-5, -1, 0}, {-1, -5, 0}, {least, -1, 0}, {-1, least, 0}, {7, 8, 0}, {7, most, 0}, {8, 99, 0}, {99, 8, 0}, {most - 1, most, 0},
	} {
		if got := s.Sum(c.lo, c.hi); got != c.want {
			t.Errorf("Sum(%d, %d) = %d, want %d", c.lo, c.hi, got, c.want)
		}
	}
}

// P9.2: places of units told by hand, next to noughts at the beginning, in the
// midst and at the end.
func TestWhereByHand(t *testing.T) {
	s := seqOf(t, []int{0, 0, 3, 0, 1, 5, 0, 0, 0, 2, 0})
	for _, c := range []struct{ unit, want int }{
		{0, 2}, {1, 2}, {2, 2}, {3, 4}, {4, 5}, {5, 5}, {8, 5}, {9, 9}, {10, 9},
		{11, -1}, {12, -1}, {-1, -1}, {-2, -1}, {least, -1}, {most, -1}, {top, -1}, {top + 1, -1},
	} {
		if got := s.Where(c.unit); got != c.want {
			t.Errorf("Where(%d) = %d, want %d", c.unit, got, c.want)
		}
	}
	great := seqOf(t, []int{0, top - 1, 0, 1, 0})
	for _, c := range []struct{ unit, want int }{{0, 1}, {1, 1}, {top - 2, 1}, {top - 1, 3}, {top, -1}, {top + 1, -1}, {most, -1}, {-1, -1}, {least, -1}} {
		if got := great.Where(c.unit); got != c.want {
			t.Errorf("of great numbers: Where(%d) = %d, want %d", c.unit, got, c.want)
		}
	}
}

// P9.1, P9.2: totals and sizes told by hand: the sums are one more than the
// numbers, the first one being 0.
func TestTotalAndSizeByHand(t *testing.T) {
	for _, c := range []struct {
		name        string
		l           []int
		total, size int
	}{
		{"none", nil, 0, 1},
		{"a nought", []int{0}, 0, 2},
		{"noughts", make([]int, 1000), 0, 1001},
		{"a unit", []int{1}, 1, 0 + 1 + 2},
		{"a number", []int{5}, 5, 1*2 + 2 + 2},
		{"the example", []int{2, 0, 3}, 5, 0 + 5 + 4},
		{"the other way round", []int{3, 0, 2}, 5, 0 + 5 + 4},
		{"the greatest", []int{top}, top, 39*2 + 2 + 2},
		{"the greatest, behind noughts", []int{0, 0, top}, top, 38*4 + 4 + 4},
	} {
		s := seqOf(t, c.l)
		if s.Total() != c.total || s.Size() != c.size {
			t.Errorf("%s: Total %d, Size %d, want %d, %d", c.name, s.Total(), s.Size(), c.total, c.size)
		}
	}
}

// P9.2: a nil sequence has no numbers, and no sums either.
func TestNil(t *testing.T) {
	var s *Seq
	check(t, "nil", s, nil)
	if s.Len() != 0 || s.Total() != 0 || s.Size() != 0 || s.At(0) != -1 || s.Where(0) != -1 || s.Sum(0, 1) != 0 {
		t.Error("Len, Total, Size, At, Where or Sum of nil")
	}
	for _, v := range far(0) {
		if s.At(v) != -1 || s.Where(v) != -1 || s.Sum(v, most) != 0 || s.Sum(least, v) != 0 {
			t.Errorf("of %d: At %d, Where %d, Sum %d, %d", v, s.At(v), s.Where(v), s.Sum(v, most), s.Sum(least, v))
		}
	}
	if s.All() == nil {
		t.Error("All of nil is no function")
	}
}

// P9.1, P9.2: the sequence of no numbers is one, and All of it a function.
func TestNoNumbers(t *testing.T) {
	for name, l := range map[string][]int{"nil": nil, "empty": {}, "cut to none": []int{-5, 3}[:0]} {
		s := seqOf(t, l)
		check(t, name, s, nil)
		if s.Size() != 1 {
			t.Errorf("%s: Size %d, want that of 0 alone: 1", name, s.Size())
		}
		if s.All() == nil {
			t.Errorf("%s: All is no function", name)
		}
	}
}

// P9.2: one going over is gone over twice, wholly, and behind one that was ended
// early: in its first round and in the midst.
func TestAllAgain(t *testing.T) {
	each(t, func(name string, l []int) {
		again := seqOf(t, l).All()
		want := pairsOf(l)
		for round, stop := range []int{1, 2, len(l)/2 + 1, len(l), -1, -1, 1, -1} {
			part := want
			if stop >= 0 {
				part = want[:min(stop, len(want))]
			}
			if got := roundsUpTo(again, stop); !slices.Equal(got, part) {
				t.Fatalf("%s: All, gone over for the time %d, ended in its round %d: %v, want %v", name, round, stop, got, part)
			}
		}
	})
}

// P9.2: behind an early end nothing more is told.
func TestAllEndedEarly(t *testing.T) {
	each(t, func(name string, l []int) {
		s := seqOf(t, l)
		for _, i := range []int{0, 1, 2, len(l) / 2, len(l) - 2, len(l) - 1} {
			if i < 0 || i >= len(l) {
				continue
			}
			calls := 0
			s.All()(func(at, v int) bool {
				calls++
				return calls <= i
			})
			if calls != i+1 {
				t.Fatalf("%s: All, ended in its round %d, told %d", name, i+1, calls)
			}
		}
	})
}

// P9.2: one going over within another of the same function begins on its own.
func TestAllWithin(t *testing.T) {
	l := []int{4, 0, 0, 9, 1, 0, 70, 2}
	again := seqOf(t, l).All()
	var outer []pair
	for i, v := range again {
		outer = append(outer, pair{i, v})
		if inner := all(again); !slices.Equal(inner, pairsOf(l)) {
			t.Fatalf("within the round %d: %v", i, inner)
		}
	}
	if !slices.Equal(outer, pairsOf(l)) {
		t.Errorf("the outer one: %v", outer)
	}
}

// P9.3: Where does not fall as t rises, and each place has as many units as its
// number says; unit by unit, where there are not too many.
func TestUnitsOfEachPlace(t *testing.T) {
	each(t, func(name string, l []int) {
		s := seqOf(t, l)
		if s.Total() > 20_000 {
			return
		}
		of := make([]int, len(l))
		ahead := 0
		for u := range s.Total() {
			i := s.Where(u)
			if i < ahead || i >= len(l) {
				t.Fatalf("%s: Where(%d) = %d, behind %d, of %d places", name, u, i, ahead, len(l))
			}
			of[i]++
			ahead = i
		}
		if !slices.Equal(of, l) {
			t.Fatalf("%s: the places have %v units, want %v", name, of, l)
		}
	})
}

// P9.3: the same of great numbers, told by the first and the last unit of each
// place, between which Where can't have fallen.
func TestUnitsOfGreatPlaces(t *testing.T) {
	each(t, func(name string, l []int) {
		s := seqOf(t, l)
		for i, v := range l {
			first, behind := s.Sum(0, i), s.Sum(0, i+1)
			if behind-first != v {
				t.Fatalf("%s: the place %d has the units from %d to below %d, want %d of them", name, i, first, behind, v)
			}
			if v == 0 {
				continue
			}
			for _, u := range []int{first, first + v/3, first + v/2, behind - 1} {
				if got := s.Where(u); got != i {
					t.Fatalf("%s: Where(%d) = %d, want %d", name, u, got, i)
				}
			}
		}
		ahead := -1
		for u := 0; u < s.Total(); u += 1 + s.Total()/997 {
			if s.Where(u) < ahead {
				t.Fatalf("%s: Where(%d) = %d, and %d ahead of it", name, u, s.Where(u), ahead)
			}
			ahead = s.Where(u)
		}
	})
}

// small and word are kinds of ints by names of their own.
type (
	small int8
	word  uint16
)

// checkKind holds the sums of a kind of ints, up to most, against what they are.
func checkKind[T whole](t *testing.T, most T, l, want []T) {
	t.Helper()
	got, ok := sumsOf(l, most)
	if ok != (want != nil) || !slices.Equal(got, want) {
		t.Errorf("sums of %T %v: %v, %v, want %v", most, l, got, ok, want)
	}
}

// The ways: numbers of any kind of int are added up, and none of them wraps round.
func TestSumsOfAllKinds(t *testing.T) {
	checkKind(t, 9, []int{4, 0, 5}, []int{0, 4, 4, 9})
	checkKind(t, 127, []int8{100, 27, 0}, []int8{0, 100, 127, 127})
	checkKind(t, 127, []int8{100, 28}, nil)
	checkKind(t, 127, []int8{100, 27, -128}, nil)
	checkKind(t, 127, []small{127, 127, 2}, nil)
	checkKind(t, 127, []small{0, 1}, []small{0, 0, 1})
	checkKind(t, math.MaxInt16, []int16{1, math.MaxInt16}, nil)
	checkKind(t, math.MaxInt32, []int32{1, math.MaxInt32 - 1}, []int32{0, 1, math.MaxInt32})
	checkKind(t, math.MaxInt64, []int64{1, math.MaxInt64}, nil)
	checkKind(t, 255, []uint8{200, 55}, []uint8{0, 200, 255})
	checkKind(t, 255, []uint8{200, 56}, nil)
	checkKind(t, math.MaxUint16, []word{math.MaxUint16, 1}, nil)
	checkKind(t, math.MaxUint32, []uint32{math.MaxUint32, 0}, []uint32{0, math.MaxUint32, math.MaxUint32})
	checkKind(t, math.MaxUint64, []uint64{math.MaxUint64, 1}, nil)
	checkKind(t, 7, []uint{7, 1}, nil)
	checkKind(t, 0, []int{}, []int{0})
}

// A sequence of many numbers, asked for all of them and all their first and last
// units.
func TestManyNumbers(t *testing.T) {
	for name, bound := range map[string]int{"noughts and ones": 2, "small": 6, "great": 1 << 22} {
		l := make([]int, 60_000)
		for i := range l {
			l[i] = mixed(i, bound)
		}
		s := seqOf(t, l)
		rounds, sum := 0, 0
		for i, v := range s.All() {
			rounds++
			if v != l[i] || s.At(i) != v || s.Sum(0, i) != sum {
				t.Fatalf("%s: the place %d: All %d, At %d, want %d; Sum %d, want %d", name, i, v, s.At(i), l[i], s.Sum(0, i), sum)
			}
			if v > 0 && (s.Where(sum) != i || s.Where(sum+v-1) != i) {
				t.Fatalf("%s: units of the place %d: Where %d, %d", name, i, s.Where(sum), s.Where(sum+v-1))
			}
			sum += v
		}
		if rounds != len(l) || s.Total() != sum {
			t.Errorf("%s: All told %d numbers of %d, Total %d, want %d", name, rounds, len(l), s.Total(), sum)
		}
	}
}
