package elias

import (
	"fmt"
	"iter"
	"locution/api"
	"math"
	"math/bits"
	"slices"
	"testing"
)

// pair is what one round of a going over tells, and what Next and Ahead tell.
type pair struct{ at, v int }

// none is what Next and Ahead tell if there is no such number.
var none = pair{-1, -1}

// mixed is a number from 0 to below bound that looks as if by chance; of each i
// it is the same each time.
func mixed(i, bound int) int {
	x := (uint64(i) + 1) * 0x9e3779b97f4a7c15
	x ^= x >> 31
	x *= 0xbf58476d1ce4e5b9
	x ^= x >> 29
	return int(x % uint64(bound))
}

// steps is n numbers from first on, each so much above the one ahead of it as
// step tells of its place.
func steps(n, first int, step func(i int) int) []int {
	l := make([]int, 0, n)
	v := first
	for i := range n {
		if i > 0 {
			v += step(i)
		}
		l = append(l, v)
	}
	return l
}

// upTo is a step of chance from 0 to most.
func upTo(most int) func(i int) int {
	return func(i int) int { return mixed(i, most+1) }
}

// atTimes is a step of which one in so many is great, and the others are small.
func atTimes(every, great, small int) func(i int) int {
	return func(i int) int {
		if i%every == 0 {
			return great
		}
		return small
	}
}

// kinds are ways to make a sequence of n numbers.
func kinds() map[string]func(n int) []int {
	by := func(first int, step func(i int) int) func(n int) []int {
		return func(n int) []int { return steps(n, first, step) }
	}
	return map[string]func(n int) []int{
		"noughts":            by(0, upTo(0)),
		"ones":               by(1, upTo(0)),
		"alike, great":       by(api.MaxValue-3, upTo(0)),
		"the greatest":       by(api.MaxValue, upTo(0)),
		"in a row":           by(0, atTimes(1, 1, 1)),
		"in a row, far on":   by(api.MaxValue-5000, atTimes(1, 1, 1)),
		"by twos":            by(7, atTimes(1, 2, 2)),
		"small gaps":         by(0, upTo(1)),
		"some gaps":          by(3, upTo(9)),
		"wide gaps":          by(1000, upTo(100_000)),
		"great gaps":         by(0, upTo(1<<28)),
		"alike, then gaps":   by(5, atTimes(70, 1<<20, 0)),
		"alike, far apart":   by(0, atTimes(600, 1<<30, 0)),
		"rows, far apart":    by(0, atTimes(600, 1<<30, 1)),
		"noughts, then far":  func(n int) []int { return steps(n, 0, func(i int) int { return atPlace(i, n-1, api.MaxValue) }) },
		"noughts, then ones": func(n int) []int { return steps(n, 0, func(i int) int { return atPlace(i, n/2, 1) }) },
		"one gap in midst":   func(n int) []int { return steps(n, 2, func(i int) int { return atPlace(i, n/2, 1<<35) }) },
	}
}

// atPlace is step at the one place, and 0 at others.
func atPlace(i, place, step int) int {
	if i == place {
		return step
	}
	return 0
}

// lengths are from none on to such as need several spans of a directory.
func lengths() []int {
	return []int{0, 1, 2, 3, 4, 5, 7, 8, 9, 31, 33, 63, 64, 65, 127, 128, 200, 255, 256, 257, 511, 512, 513, 1400}
}

// each calls a test for sequences of all kinds and lengths.
func each(t *testing.T, test func(name string, l []int)) {
	t.Helper()
	for kind, made := range kinds() {
		for _, n := range lengths() {
			test(fmt.Sprintf("%s, %d numbers", kind, n), made(n))
		}
	}
}

// seqOf is the sequence of these numbers, which may be.
func seqOf(t *testing.T, l []int) *Seq {
	t.Helper()
	s, e := New(l)
	if e != api.OK || s == nil {
		t.Fatalf("New of %d numbers that may be: %v, error %d", len(l), s, e)
	}
	return s
}

// plainLow tries each width.
func plainLow(n, last int) int {
	if n < 1 || last < 1 {
		return 0
	}
	w := 0
	for try := range 64 {
		over, product := bits.Mul64(uint64(n), 1<<try)
		if over == 0 && product <= uint64(last) {
			w = try
		}
	}
	return w
}

// plainParts tells how many bits the low part has, and how many noughts the high
// part, counted number by number.
func plainParts(l []int) (low, noughts int) {
	if len(l) == 0 {
		return 0, 0
	}
	w := plainLow(len(l), l[len(l)-1])
	ahead := 0
	for _, v := range l {
		low += w
		high := v / (1 << w)
		noughts += high - ahead
		ahead = high
	}
	return low, noughts
}

func plainNext(l []int, v int) pair {
	for i, x := range l {
		if x >= v {
			return pair{i, x}
		}
	}
	return none
}

func plainAhead(l []int, v int) pair {
	found := none
	for i, x := range l {
		if x <= v {
			found = pair{i, x}
		}
	}
	return found
}

func plainFind(l []int, lo, hi, v int) int {
	for i, x := range l {
		if i >= lo && i < hi && x == v {
			return i
		}
	}
	return -1
}

// next and ahead are what the calls tell, as one value.
func next(s *Seq, v int) pair  { i, x := s.Next(v); return pair{i, x} }
func ahead(s *Seq, v int) pair { i, x := s.Ahead(v); return pair{i, x} }

// far are ints that are no places of a list of n numbers.
func far(n int) []int {
	return []int{math.MinInt, math.MinInt + 1, math.MinInt32, -1 << 40, -65, -64, -2, -1,
		n, n + 1, n + 63, n + 64, n + 512, math.MaxInt32, 1 << 40, 1 << 58, 1 << 62, math.MaxInt - 1, math.MaxInt}
}

// some are places among those of n numbers: at both ends, and in the midst.
func some(n int) []int {
	var l []int
	for _, i := range []int{0, 1, 2, 31, 32, 63, 64, n / 3, n / 2, n - 65, n - 64, n - 3, n - 2, n - 1} {
		if i >= 0 && i < n {
			l = append(l, i)
		}
	}
	slices.Sort(l)
	return slices.Compact(l)
}

// values are numbers that are asked for: out of all bounds, at some numbers of
// the list, and just below and above them.
func values(l []int) []int {
	out := []int{math.MinInt, math.MinInt + 1, math.MinInt32, -1 << 40, -2, -1, 0, 1, 2, 3, 63, 64, 1 << 20, 1<<30 - 1, 1 << 30,
		api.MaxValue - 1, api.MaxValue, api.MaxValue + 1, api.MaxValue + 2, 1 << 41, 1 << 62, math.MaxInt - 1, math.MaxInt}
	for _, i := range some(len(l)) {
		out = append(out, l[i]-1, l[i], l[i]+1, l[i]/2)
		if i > 0 {
			out = append(out, (l[i-1]+l[i])/2)
		}
	}
	slices.Sort(out)
	return slices.Compact(out)
}

// roundsUpTo lists what a going over tells, and ends it in the round stop, if it
// comes so far.
func roundsUpTo(seq iter.Seq2[int, int], stop int) []pair {
	var pairs []pair
	for i, v := range seq {
		pairs = append(pairs, pair{i, v})
		if len(pairs) == stop {
			break
		}
	}
	return pairs
}

// whole lists all that a going over tells.
func whole(seq iter.Seq2[int, int]) []pair { return roundsUpTo(seq, -1) }

// pairsOf lists what All has to tell of these numbers.
func pairsOf(l []int) []pair {
	var pairs []pair
	for i, v := range l {
		pairs = append(pairs, pair{i, v})
	}
	return pairs
}

// check holds all that s tells against the numbers, looked at one by one.
func check(t *testing.T, name string, s *Seq, l []int) {
	t.Helper()
	checkNumbers(t, name, s, l)
	checkValues(t, name, s, l)
	low, noughts := plainParts(l)
	if got, want := s.Size(), low+noughts+len(l); got != want {
		t.Fatalf("%s: Size = %d, want %d", name, got, want)
	}
	if got := whole(s.All()); !slices.Equal(got, pairsOf(l)) {
		t.Fatalf("%s: All tells %v, want %v", name, got, l)
	}
}

func checkNumbers(t *testing.T, name string, s *Seq, l []int) {
	t.Helper()
	last := -1
	for i, want := range l {
		if got := s.At(i); got != want {
			t.Fatalf("%s: At(%d) = %d, want %d", name, i, got, want)
		}
		last = want
	}
	for _, i := range far(len(l)) {
		if got := s.At(i); got != -1 {
			t.Fatalf("%s: At(%d) = %d, want -1", name, i, got)
		}
	}
	if s.Len() != len(l) || s.Last() != last {
		t.Fatalf("%s: Len %d, Last %d, want %d, %d", name, s.Len(), s.Last(), len(l), last)
	}
}

func checkValues(t *testing.T, name string, s *Seq, l []int) {
	t.Helper()
	for _, v := range values(l) {
		if got, want := next(s, v), plainNext(l, v); got != want {
			t.Fatalf("%s: Next(%d) = %v, want %v", name, v, got, want)
		}
		if got, want := ahead(s, v), plainAhead(l, v); got != want {
			t.Fatalf("%s: Ahead(%d) = %v, want %v", name, v, got, want)
		}
		if got, want := s.Find(0, len(l), v), plainFind(l, 0, len(l), v); got != want {
			t.Fatalf("%s: Find(0, %d, %d) = %d, want %d", name, len(l), v, got, want)
		}
	}
}

// The chapter's example.
func TestExample(t *testing.T) {
	l := []int{3, 4, 7, 13, 14, 15, 21, 43}
	s := seqOf(t, l)
	if Low(8, 43) != 2 || s.Size() != 34 {
		t.Errorf("Low %d, Size %d, want 2, 34", Low(8, 43), s.Size())
	}
	if got := next(s, 8); got != (pair{3, 13}) {
		t.Errorf("Next(8) = %v, want 3 13", got)
	}
	if got := ahead(s, 12); got != (pair{2, 7}) {
		t.Errorf("Ahead(12) = %v, want 2 7", got)
	}
	if got := s.Find(2, 6, 14); got != 4 {
		t.Errorf("Find(2, 6, 14) = %d, want 4", got)
	}
	check(t, "example", s, l)
}

// P7.1, P7.2, P7.3: sequences of all kinds, longer than one span of a directory
// among them, with great gaps and with none.
func TestAgainstPlainNumbers(t *testing.T) {
	each(t, func(name string, l []int) { check(t, name, seqOf(t, l), l) })
}

// P7.1, P7.2: every number about a short sequence is asked for.
func TestEveryNumber(t *testing.T) {
	for _, l := range [][]int{{0}, {1}, {2}, {5}, {64}, {0, 0}, {0, 1}, {1, 1}, {0, 300}, {300, 300}, {0, 64, 128, 192}, {7, 7, 8, 8, 8, 200},
		{0, 0, 0, 1, 1, 63, 64, 64, 65, 128, 129, 299, 300, 300}, {3, 4, 7, 13, 14, 15, 21, 43}, {100, 101, 102, 103, 104, 105}} {
		s := seqOf(t, l)
		for v := -3; v < 310; v++ {
			if next(s, v) != plainNext(l, v) || ahead(s, v) != plainAhead(l, v) {
				t.Fatalf("%v: of %d Next tells %v, Ahead %v, want %v, %v", l, v, next(s, v), ahead(s, v), plainNext(l, v), plainAhead(l, v))
			}
			for lo := -2; lo < len(l)+2; lo++ {
				for hi := -2; hi < len(l)+3; hi++ {
					if got, want := s.Find(lo, hi, v), plainFind(l, lo, hi, v); got != want {
						t.Fatalf("%v: Find(%d, %d, %d) = %d, want %d", l, lo, hi, v, got, want)
					}
				}
			}
		}
		check(t, fmt.Sprint(l), s, l)
	}
}

// P7.1: which error is told: the first wrong number's, and of one number
// ErrRange ahead of ErrOrder.
func TestNewErrors(t *testing.T) {
	const top = api.MaxValue
	for _, c := range []struct {
		l    []int
		want api.Errno
	}{
		{[]int{-1}, api.ErrRange},
		{[]int{math.MinInt}, api.ErrRange},
		{[]int{top + 1}, api.ErrRange},
		{[]int{math.MaxInt}, api.ErrRange},
		{[]int{0, top + 1}, api.ErrRange},
		{[]int{0, 1, 2, math.MaxInt, math.MaxInt}, api.ErrRange},
		{[]int{1, 0}, api.ErrOrder},
		{[]int{top, 0}, api.ErrOrder},
		{[]int{top, top - 1}, api.ErrOrder},
		{[]int{1, 2, 2, 1}, api.ErrOrder},
		{[]int{1, 2, 1, 2, 3}, api.ErrOrder},
		// Two wrongs, the first one by place is told.
		{[]int{5, 4, -1}, api.ErrOrder},
		{[]int{5, 4, top + 1}, api.ErrOrder},
		{[]int{-1, 5, 4}, api.ErrRange},
		{[]int{top + 1, 5, 4}, api.ErrRange},
		{[]int{1, top + 1, 0}, api.ErrRange},
		{[]int{top + 1, 0}, api.ErrRange},
		// Two wrongs of one number.
		{[]int{0, -1}, api.ErrRange},
		{[]int{7, math.MinInt}, api.ErrRange},
	} {
		s, e := New(c.l)
		if s != nil || e != c.want {
			t.Errorf("New(%v) = %v, error %d, want nil, error %d", c.l, s, e, c.want)
		}
	}
}

// P7.1: one wrong number anywhere in a long list.
func TestNewErrorsInTheMidst(t *testing.T) {
	l := kinds()["some gaps"](1400)
	for _, at := range []int{1, 2, 63, 64, 700, 1398, 1399} {
		for wrong, want := range map[int]api.Errno{-1: api.ErrRange, api.MaxValue + 1: api.ErrRange, l[at-1] - 1: api.ErrOrder} {
			bad := slices.Clone(l)
			bad[at] = wrong
			if s, e := New(bad); s != nil || e != want {
				t.Errorf("%d at the place %d behind %d: %v, error %d, want nil, error %d", wrong, at, l[at-1], s, e, want)
			}
		}
	}
}

// P7.1: numbers at the bounds, and alike, may be.
func TestNewAtTheBounds(t *testing.T) {
	const top = api.MaxValue
	for _, l := range [][]int{nil, {}, {0}, {1}, {top - 1}, {top}, {0, 0}, {top, top}, {0, top}, {0, 0, 0, top, top}, {0, 1, top - 1, top}} {
		check(t, fmt.Sprint(l), seqOf(t, l), l)
	}
}

// P7.1: the numbers are those that were in the list, whatever becomes of it, and
// the list is left as it was; what lies behind its length is not looked at.
func TestListIsNotKept(t *testing.T) {
	each(t, func(name string, l []int) {
		room := append(slices.Clone(l), -7, -8, -9)
		handed := room[:len(l)]
		s := seqOf(t, handed)
		if !slices.Equal(room, append(slices.Clone(l), -7, -8, -9)) {
			t.Fatalf("%s: the list was changed", name)
		}
		begun := s.All()
		for i := range room {
			room[i] = 1 << 50
		}
		check(t, name+", list changed", s, l)
		if got := whole(begun); !slices.Equal(got, pairsOf(l)) {
			t.Fatalf("%s: All that was asked ahead of the change tells %v", name, got)
		}
	})
}

// P7.1: a wrong list is left as it was, too.
func TestWrongListUnchanged(t *testing.T) {
	l := []int{4, 9, -2, 3}
	New(l)
	if !slices.Equal(l, []int{4, 9, -2, 3}) {
		t.Errorf("the list was changed: %v", l)
	}
}

// P7.1: widths told by hand.
func TestLowByHand(t *testing.T) {
	const most = math.MaxInt
	for _, c := range []struct{ n, last, want int }{
		{8, 43, 2}, {8, 7, 0}, {3, 7, 1}, {1, 1, 0}, {1, 2, 1}, {1, 3, 1}, {1, 4, 2},
		// n times 2^w is last, and one more than it.
		{1, 8, 3}, {1, 7, 2}, {5, 5, 0}, {5, 9, 0}, {5, 10, 1}, {5, 19, 1}, {5, 20, 2}, {5, 39, 2}, {5, 40, 3},
		{1000, 1023999, 9}, {1000, 1024000, 10}, {1, api.MaxValue, 40}, {1, api.MaxValue - 1, 39}, {2, api.MaxValue, 39}, {3, api.MaxValue, 38},
		// n above last.
		{2, 1, 0}, {9, 8, 0}, {most, 1, 0}, {most, most - 1, 0},
		// n or last below 1.
		{0, 0, 0}, {0, 43, 0}, {0, most, 0}, {-1, 43, 0}, {8, 0, 0}, {8, -43, 0}, {-8, -43, 0}, {-8, -8, 0}, {-1, most, 0},
		{math.MinInt, most, 0}, {most, math.MinInt, 0}, {math.MinInt, math.MinInt, 0}, {-1, math.MinInt, 0}, {1, math.MinInt, 0},
		// The greatest ints.
		{1, most, 62}, {2, most, 61}, {3, most, 61}, {4, most, 60}, {most, most, 0}, {most/2 + 1, most, 0}, {most / 2, most, 1},
		{most / 2, most - 1, 1}, {most / 2, most - 2, 0}, {1, 1 << 62, 62}, {1 << 31, 1 << 62, 31}, {1<<31 + 1, 1 << 62, 30},
	} {
		if got := Low(c.n, c.last); got != c.want {
			t.Errorf("Low(%d, %d) = %d, want %d", c.n, c.last, got, c.want)
		}
	}
}

// P7.1: widths held against all that are tried.
func TestLowAgainstPlain(t *testing.T) {
	var l []int
	for i := range 130 {
		l = append(l, i-5)
	}
	for k := 7; k < 63; k++ {
		l = append(l, 1<<k-1, 1<<k, 1<<k+1, 3<<k>>1, -1<<k, mixed(k, 1<<k))
	}
	l = append(l, math.MinInt, math.MaxInt-1, math.MaxInt)
	for _, n := range l {
		for _, last := range l {
			if got, want := Low(n, last), plainLow(n, last); got != want {
				t.Fatalf("Low(%d, %d) = %d, want %d", n, last, got, want)
			}
		}
	}
}

// P7.1: At and Last, told by hand.
func TestAtByHand(t *testing.T) {
	s := seqOf(t, []int{0, 0, 9, 1000, 1 << 39})
	for i, want := range map[int]int{math.MinInt: -1, -1: -1, 0: 0, 1: 0, 2: 9, 3: 1000, 4: 1 << 39, 5: -1, 64: -1, math.MaxInt: -1} {
		if got := s.At(i); got != want {
			t.Errorf("At(%d) = %d, want %d", i, got, want)
		}
	}
	if s.Last() != 1<<39 || s.Len() != 5 || seqOf(t, nil).Last() != -1 || seqOf(t, []int{0}).Last() != 0 {
		t.Error("Last or Len")
	}
}

// P7.2: Next and Ahead, told by hand.
func TestNextAndAheadByHand(t *testing.T) {
	s := seqOf(t, []int{10, 20, 20, 20, 35, 900, 900})
	for _, c := range []struct {
		v           int
		next, ahead pair
	}{
		{math.MinInt, pair{0, 10}, none},
		{-1, pair{0, 10}, none},
		{0, pair{0, 10}, none},
		{9, pair{0, 10}, none},
		{10, pair{0, 10}, pair{0, 10}},
		{11, pair{1, 20}, pair{0, 10}},
		{19, pair{1, 20}, pair{0, 10}},
		{20, pair{1, 20}, pair{3, 20}},
		{21, pair{4, 35}, pair{3, 20}},
		{35, pair{4, 35}, pair{4, 35}},
		{36, pair{5, 900}, pair{4, 35}},
		{899, pair{5, 900}, pair{4, 35}},
		{900, pair{5, 900}, pair{6, 900}},
		{901, none, pair{6, 900}},
		{api.MaxValue, none, pair{6, 900}},
		{api.MaxValue + 1, none, pair{6, 900}},
		{math.MaxInt, none, pair{6, 900}},
	} {
		if next(s, c.v) != c.next || ahead(s, c.v) != c.ahead {
			t.Errorf("of %d Next tells %v, Ahead %v, want %v, %v", c.v, next(s, c.v), ahead(s, c.v), c.next, c.ahead)
		}
	}
}

// P7.2: the greatest number that may be is found from both sides.
func TestNextAndAheadAtTheBound(t *testing.T) {
	const top = api.MaxValue
	for _, l := range [][]int{{top}, {top, top}, {0, top}, {0, 0, 0, 0, 0, top, top, top}} {
		s := seqOf(t, l)
		for _, v := range []int{top - 1, top, top + 1, math.MaxInt - 1, math.MaxInt} {
			if next(s, v) != plainNext(l, v) || ahead(s, v) != plainAhead(l, v) || s.Find(0, 9, v) != plainFind(l, 0, 9, v) {
				t.Errorf("%v: of %d Next tells %v, Ahead %v, Find %d", l, v, next(s, v), ahead(s, v), s.Find(0, 9, v))
			}
		}
	}
}

// P7.2: Find, told by hand.
func TestFindByHand(t *testing.T) {
	s := seqOf(t, []int{10, 20, 20, 20, 35, 900, 900})
	const most, least = math.MaxInt, math.MinInt
	for _, c := range []struct{ lo, hi, v, want int }{
		{0, 7, 10, 0}, {0, 7, 20, 1}, {0, 7, 35, 4}, {0, 7, 900, 5},
		// lo below 0, and hi behind the last place.
		{-5, 7, 10, 0}, {least, 8, 20, 1}, {least, most, 900, 5}, {6, most, 900, 6}, {7, most, 900, -1}, {most, most, 900, -1},
		{least, 0, 10, -1}, {least, 1, 10, 0}, {least, least, 10, -1}, {-3, -1, 10, -1},
		// lo at hi, and above it.
		{0, 0, 10, -1}, {1, 1, 20, -1}, {2, 1, 20, -1}, {7, 0, 10, -1}, {most, least, 20, -1},
		// Numbers alike of which the first ones lie ahead of lo, or all of them.
		{2, 7, 20, 2}, {3, 7, 20, 3}, {4, 7, 20, -1}, {3, 4, 20, 3}, {3, 3, 20, -1},
		// Numbers that lie just behind the span.
		{0, 4, 35, -1}, {0, 5, 35, 4}, {0, 1, 20, -1}, {0, 2, 20, 1},
		// Numbers that are not there; -1 is what At tells of no place.
		{0, 7, 9, -1}, {0, 7, 11, -1}, {0, 7, 36, -1}, {0, 7, 901, -1}, {0, 9, 0, -1}, {0, 9, -1, -1}, {7, 9, -1, -1}, {-3, 2, -1, -1},
		{8, most, -1, -1}, {least, most, least, -1}, {least, most, most, -1},
	} {
		if got := s.Find(c.lo, c.hi, c.v); got != c.want {
			t.Errorf("Find(%d, %d, %d) = %d, want %d", c.lo, c.hi, c.v, got, c.want)
		}
	}
}

// P7.2: Find in long sequences, between places of all sorts.
func TestFindBetween(t *testing.T) {
	each(t, func(name string, l []int) {
		s := seqOf(t, l)
		places := append(some(len(l)), far(len(l))...)
		var asked []int
		for _, i := range some(len(l)) {
			asked = append(asked, l[i], l[i]+1)
		}
		for _, v := range append(asked, -1, 0, api.MaxValue+1) {
			for _, lo := range places {
				hi := places[mixed(lo, len(places))]
				for _, hi := range []int{hi, len(l), lo, math.MaxInt} {
					if got, want := s.Find(lo, hi, v), plainFind(l, lo, hi, v); got != want {
						t.Fatalf("%s: Find(%d, %d, %d) = %d, want %d", name, lo, hi, v, got, want)
					}
				}
			}
		}
	})
}

// P7.3: sizes told by hand.
func TestSizeByHand(t *testing.T) {
	for _, c := range []struct {
		l    []int
		want int
	}{
		{nil, 0},
		{[]int{0}, 1},
		{make([]int, 1000), 1000},
		// One number: its low bits, one nought and a one.
		{[]int{1}, 2}, {[]int{2}, 3}, {[]int{3}, 3}, {[]int{api.MaxValue}, 42}, {[]int{api.MaxValue - 1}, 41},
		{[]int{3, 4, 7}, 9},
		{[]int{1, 1, 1, 1}, 5},
		{[]int{0, 1, 2, 3, 4, 5, 6, 7}, 15},
		{[]int{3, 4, 7, 13, 14, 15, 21, 43}, 34},
	} {
		if got := seqOf(t, c.l).Size(); got != c.want {
			t.Errorf("Size of %v = %d, want %d", c.l, got, c.want)
		}
	}
}

// P7.3: a nil sequence has no numbers.
func TestNil(t *testing.T) {
	var s *Seq
	check(t, "nil", s, nil)
	if s.All() == nil {
		t.Error("All of nil is no function")
	}
	for _, v := range far(0) {
		if next(s, v) != none || ahead(s, v) != none || s.Find(math.MinInt, math.MaxInt, v) != -1 || s.Find(v, math.MaxInt, -1) != -1 {
			t.Errorf("of %d: Next %v, Ahead %v, Find %d", v, next(s, v), ahead(s, v), s.Find(math.MinInt, math.MaxInt, v))
		}
	}
	if s.Len() != 0 || s.Last() != -1 || s.Size() != 0 || s.At(0) != -1 {
		t.Error("Len, Last, Size or At of nil")
	}
}

// P7.1, P7.3: the sequence of no numbers is one, and All of it a function.
func TestNoNumbers(t *testing.T) {
	for name, l := range map[string][]int{"nil": nil, "empty": {}, "cut to none": []int{5, 3}[:0]} {
		s := seqOf(t, l)
		check(t, name, s, nil)
		if s.All() == nil {
			t.Errorf("%s: All is no function", name)
		}
	}
}

// P7.3: one going over is gone over twice, wholly, and behind one that was ended
// early, in its first round and in the midst.
func TestAllAgain(t *testing.T) {
	each(t, func(name string, l []int) {
		s := seqOf(t, l)
		all := s.All()
		want := pairsOf(l)
		for round, stop := range []int{1, 2, len(l)/2 + 1, len(l), -1, -1, 1, -1} {
			part := want
			if stop >= 0 {
				part = want[:min(stop, len(want))]
			}
			if got := roundsUpTo(all, stop); !slices.Equal(got, part) {
				t.Fatalf("%s: All, gone over for the time %d, ended in its round %d: %v, want %v", name, round, stop, got, part)
			}
		}
		check(t, name+", behind all goings over", s, l)
	})
}

// P7.3: behind an early end nothing more is told.
func TestAllEndedEarly(t *testing.T) {
	each(t, func(name string, l []int) {
		s := seqOf(t, l)
		for _, i := range some(len(l)) {
			calls := 0
			s.All()(func(at, v int) bool {
				calls++
				return calls <= i
			})
			if calls != i+1 {
				t.Fatalf("%s: All, ended in its round %d, told %d", name, i+1, calls)
			}
		}
	})
}

// P7.3: one going over within another of the same function begins on its own.
func TestAllWithin(t *testing.T) {
	l := kinds()["some gaps"](300)
	s := seqOf(t, l)
	all := s.All()
	var outer []pair
	for i, v := range all {
		outer = append(outer, pair{i, v})
		if inner := whole(all); !slices.Equal(inner, pairsOf(l)) {
			t.Fatalf("within the round %d: %v", i, inner)
		}
	}
	if !slices.Equal(outer, pairsOf(l)) {
		t.Errorf("the outer one: %v", outer)
	}
}

// P7.4: Size is below n times (w + 3), and there are fewer than 2 n noughts.
func TestSizeIsSmall(t *testing.T) {
	each(t, func(name string, l []int) {
		if len(l) == 0 {
			return
		}
		checkSmall(t, name, l)
	})
	for last := range 700 {
		for n := 1; n < 40; n++ {
			checkSmall(t, fmt.Sprintf("%d numbers, the last one %d", n, last), append(make([]int, n-1), last))
		}
	}
}

func checkSmall(t *testing.T, name string, l []int) {
	t.Helper()
	n := len(l)
	w := Low(n, l[n-1])
	size := seqOf(t, l).Size()
	if size >= n*(w+3) {
		t.Fatalf("%s: Size %d, low width %d", name, size, w)
	}
	if noughts := size - n*w - n; noughts < 0 || noughts >= 2*n {
		t.Fatalf("%s: %d noughts in the high part", name, noughts)
	}
}

// A sequence of many spans, asked for all its numbers and all between two.
func TestManySpans(t *testing.T) {
	for name, most := range map[string]int{"dense": 2, "sparse": 5000} {
		l := steps(100_000, 0, upTo(most))
		s := seqOf(t, l)
		for i, v := range s.All() {
			if v != l[i] || s.At(i) != v || s.Find(i, i+1, v) != i {
				t.Fatalf("%s: the place %d: All %d, At %d, want %d", name, i, v, s.At(i), l[i])
			}
			first, last := i, i
			for first > 0 && l[first-1] == v {
				first--
			}
			for last+1 < len(l) && l[last+1] == v {
				last++
			}
			if next(s, v) != (pair{first, v}) || ahead(s, v) != (pair{last, v}) {
				t.Fatalf("%s: of %d Next tells %v, Ahead %v, want the places %d, %d", name, v, next(s, v), ahead(s, v), first, last)
			}
			if last+1 < len(l) && (next(s, v+1) != pair{last + 1, l[last+1]} || ahead(s, l[last+1]-1) != pair{last, v}) {
				t.Fatalf("%s: behind %d Next tells %v, Ahead %v", name, v, next(s, v+1), ahead(s, l[last+1]-1))
			}
		}
	}
}
