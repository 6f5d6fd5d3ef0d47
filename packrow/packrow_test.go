package packrow

import (
	"locution/api"
	"math"
	"slices"
	"testing"
)

const full = math.MaxUint64

// spread is a source of mixed words that is the same each time.
type spread uint64

func (s *spread) next() uint64 {
	*s = *s*6364136223846793005 + 1442695040888963407
	x := uint64(*s)
	return x ^ x>>29
}

// top is the greatest number of that width.
func top(width int) uint64 {
	v := uint64(0)
	for range width {
		v = v*2 + 1
	}
	return v
}

// mixed is count numbers of that width, the greatest one and 0 among them.
func mixed(s *spread, width, count int) []uint64 {
	l := []uint64{top(width), 0}
	for range count {
		l = append(l, s.next()&top(width))
	}
	return append(l, top(width), top(width), 0)
}

// lists are lists of numbers for each width, from none on.
func lists(width int) [][]uint64 {
	s := spread(width + 3)
	l := [][]uint64{nil, {}, {0}, {top(width)}, {0, 0, 0}, {top(width), top(width)}}
	for _, count := range []int{1, 10, 61, 62, 130} {
		l = append(l, mixed(&s, width, count))
	}
	return l
}

// plainWords lays the bits of the numbers one by one.
func plainWords(width int, l []uint64) []uint64 {
	var words []uint64
	at := 0
	for _, v := range l {
		for j := range width {
			if at%64 == 0 {
				words = append(words, 0)
			}
			words[at/64] |= v >> j & 1 << (at % 64)
			at++
		}
	}
	return words
}

func plainAt(l []uint64, i int) uint64 {
	if i < 0 || i >= len(l) {
		return 0
	}
	return l[i]
}

// plainFind looks at all places, one after the other.
func plainFind(l []uint64, lo, hi int, v uint64) int {
	for i, x := range l {
		if i >= lo && i < hi && x >= v {
			return i
		}
	}
	return -1
}

// places are all ints about a list of n numbers, and those far off; among these
// are such that wrap round to a small bit number when a width is multiplied on.
func places(n int) []int {
	l := []int{math.MinInt, math.MinInt + 1, math.MinInt32, -1 << 58, -1 << 57, -1000,
		1 << 32, 1 << 57, 1 << 58, 1<<58 + 1, 1 << 60, 1 << 62, math.MaxInt/3 + 1, math.MaxInt - 1, math.MaxInt}
	for i := -3; i <= n+3; i++ {
		l = append(l, i)
	}
	return l
}

// check holds all that p tells against the width and the numbers.
func check(t *testing.T, name string, p *Pack, width int, l []uint64) {
	t.Helper()
	if p.Len() != len(l) || p.Width() != width {
		t.Fatalf("%s: Len %d, Width %d, want %d, %d", name, p.Len(), p.Width(), len(l), width)
	}
	for _, i := range places(len(l)) {
		if got, want := p.At(i), plainAt(l, i); got != want {
			t.Fatalf("%s, width %d: At(%d) = %d, want %d", name, width, i, got, want)
		}
	}
	if got, want := p.Words(), plainWords(width, l); !slices.Equal(got, want) {
		t.Fatalf("%s, width %d: Words = %x, want %x", name, width, got, want)
	}
	checkAll(t, name, p, l)
}

// checkAll goes over all numbers, and again, and to each place but no further.
func checkAll(t *testing.T, name string, p *Pack, l []uint64) {
	t.Helper()
	all := p.All()
	if all == nil {
		t.Fatalf("%s: All is nil", name)
	}
	for upto := -1; upto < len(l); upto++ {
		if upto >= 0 {
			goTo(t, name, p, upto, l)
		}
		if upto > 2 && upto < len(l)-2 {
			continue
		}
		k := 0
		for i, v := range all {
			if i != k || k >= len(l) || v != l[k] {
				t.Fatalf("%s: All tells %d %d as the one with %d ahead of it", name, i, v, k)
			}
			k++
		}
		if k != len(l) {
			t.Fatalf("%s: All tells %d numbers, want %d", name, k, len(l))
		}
	}
}

// goTo ends a going over at the place last; one that went on would panic.
func goTo(t *testing.T, name string, p *Pack, last int, l []uint64) {
	t.Helper()
	told := 0
	for i, v := range p.All() {
		if i != told || v != l[told] {
			t.Fatalf("%s: All tells %d %d as the one with %d ahead of it", name, i, v, told)
		}
		told++
		if i == last {
			break
		}
	}
	if told != last+1 {
		t.Fatalf("%s: All told %d numbers up to the place %d", name, told, last)
	}
}

// The chapter's example, number by number.
func TestExample(t *testing.T) {
	p := Fit([]uint64{1, 5, 6})
	if got := p.Width(); got != 3 {
		t.Errorf("Width = %d", got)
	}
	if got := p.Words(); !slices.Equal(got, []uint64{425}) {
		t.Errorf("Words = %d", got)
	}
	if got := p.Find(0, 3, 2); got != 1 {
		t.Errorf("Find(0, 3, 2) = %d", got)
	}
	check(t, "example", p, 3, []uint64{1, 5, 6})
}

// P3.1, P3.2: packs of each width, told by numbers and by words.
func TestNewAndOf(t *testing.T) {
	for width := range 65 {
		for _, l := range lists(width) {
			p, e := New(width, l)
			if e != api.OK || p == nil {
				t.Fatalf("New(%d, %d) = %v, %d, want a pack", width, l, p, e)
			}
			check(t, "New", p, width, l)
			p, e = Of(width, len(l), plainWords(width, l))
			if e != api.OK || p == nil {
				t.Fatalf("Of(%d, %d, ..) = %v, %d, want a pack", width, len(l), p, e)
			}
			check(t, "Of", p, width, l)
		}
	}
}

// P3.1: what New refuses, in which order.
func TestNewRefused(t *testing.T) {
	for _, width := range []int{math.MinInt, -64, -1, 65, 66, 128, math.MaxInt} {
		for _, l := range [][]uint64{nil, {}, {0}, {1}, {0, full}} {
			if p, e := New(width, l); p != nil || e != api.ErrArg {
				t.Errorf("New(%d, %d) = %v, %d, want nil, ErrArg", width, l, p, e)
			}
		}
	}
	for width := range 64 {
		for _, v := range []uint64{top(width) + 1, top(width) + 2, top(width)*2 + 1, 1 << 63, full} {
			if v <= top(width) {
				continue
			}
			for _, l := range [][]uint64{{v}, {v, 0}, {0, v}, {0, top(width), v}, {0, v, 0, v}} {
				if p, e := New(width, l); p != nil || e != api.ErrRange {
					t.Errorf("New(%d, %d) = %v, %d, want nil, ErrRange", width, l, p, e)
				}
			}
		}
	}
}

// P3.1: the least width in which all numbers can be.
func TestFit(t *testing.T) {
	for _, x := range []struct {
		l     []uint64
		width int
	}{
		{nil, 0}, {[]uint64{}, 0}, {[]uint64{0}, 0}, {[]uint64{0, 0, 0}, 0}, {[]uint64{1}, 1}, {[]uint64{0, 1}, 1},
		{[]uint64{2}, 2}, {[]uint64{3, 0}, 2}, {[]uint64{4, 1}, 3}, {[]uint64{1, 2, 4}, 3}, {[]uint64{7, 8, 7}, 4},
		{[]uint64{1 << 62}, 63}, {[]uint64{1<<63 - 1, 5}, 63}, {[]uint64{1 << 63}, 64}, {[]uint64{0, full, 0}, 64},
	} {
		p := Fit(x.l)
		if p == nil {
			t.Fatalf("Fit(%d) is nil", x.l)
		}
		check(t, "Fit", p, x.width, x.l)
	}
	for width := range 65 {
		s := spread(width)
		l := mixed(&s, width, 70)
		check(t, "Fit", Fit(l), width, l)
	}
}

// P3.1: what Of refuses, in which order.
func TestOfRefused(t *testing.T) {
	for _, x := range []struct {
		width, n int
		words    []uint64
		want     api.Errno
	}{
		{-1, 0, nil, api.ErrArg}, {65, 0, nil, api.ErrArg}, {math.MinInt, 0, nil, api.ErrArg}, {math.MaxInt, 0, nil, api.ErrArg},
		{-1, -64, []uint64{5}, api.ErrArg}, {-8, -8, []uint64{5}, api.ErrArg}, {128, 1, []uint64{5, 5}, api.ErrArg},
		{65, 1, []uint64{0, 0}, api.ErrArg}, {-1, -1, []uint64{full}, api.ErrArg},
		{0, -1, nil, api.ErrArg}, {3, -1, nil, api.ErrArg}, {64, -1, nil, api.ErrArg}, {0, math.MinInt, nil, api.ErrArg},
		{64, math.MinInt, nil, api.ErrArg}, {0, MaxLen + 1, nil, api.ErrArg}, {0, math.MaxInt, nil, api.ErrArg},
		// So many numbers that their bits wrap round to none, and to few.
		{64, 1 << 58, nil, api.ErrArg}, {64, 1<<58 + 1, []uint64{7}, api.ErrArg}, {4, 1 << 62, nil, api.ErrArg},
		{3, math.MaxInt, []uint64{0}, api.ErrArg},
		// Words too few, and too many.
		{1, 1, nil, api.ErrArg}, {3, 3, nil, api.ErrArg}, {33, 2, []uint64{0}, api.ErrArg}, {64, 2, []uint64{1}, api.ErrArg},
		{64, MaxLen, nil, api.ErrArg}, {1, MaxLen, []uint64{0}, api.ErrArg}, {0, 0, []uint64{0}, api.ErrArg},
		{0, 5, []uint64{0}, api.ErrArg}, {0, 64, []uint64{0}, api.ErrArg}, {3, 0, []uint64{0}, api.ErrArg},
		{3, 3, []uint64{425, 0}, api.ErrArg}, {64, 1, []uint64{1, 0}, api.ErrArg},
		// Words too many, and ones above the last bit as well: the count comes first.
		{3, 2, []uint64{425, 1}, api.ErrArg}, {0, 0, []uint64{1}, api.ErrArg}, {3, 0, []uint64{1}, api.ErrArg},
		{1, 1, []uint64{2}, api.ErrForm}, {3, 2, []uint64{425}, api.ErrForm}, {3, 3, []uint64{1 << 9}, api.ErrForm},
		{3, 21, []uint64{1 << 63}, api.ErrForm}, {33, 2, []uint64{0, 4}, api.ErrForm}, {63, 1, []uint64{full}, api.ErrForm},
		{13, 5, []uint64{full, 2}, api.ErrForm},
	} {
		if p, e := Of(x.width, x.n, x.words); p != nil || e != x.want {
			t.Errorf("Of(%d, %d, %x) = %v, %d, want nil, %d", x.width, x.n, x.words, p, e, x.want)
		}
	}
}

// P3.1: as many numbers as there may be, of no bits and of one; one more is too
// many, however many words there are.
func TestOfMaxLen(t *testing.T) {
	if MaxLen != 67108864 {
		t.Errorf("MaxLen = %d", MaxLen)
	}
	p, e := Of(0, MaxLen, nil)
	if e != api.OK || p.Len() != MaxLen || p.Width() != 0 || len(p.Words()) != 0 || p.At(MaxLen-1) != 0 {
		t.Fatalf("Of(0, MaxLen, nil) = %v, %d", p, e)
	}
	if got := p.Find(MaxLen-1, math.MaxInt, 0); got != MaxLen-1 {
		t.Errorf("Find from the last place on = %d", got)
	}
	if got := p.Find(0, math.MaxInt, 1); got != -1 {
		t.Errorf("Find of 1 among noughts = %d", got)
	}
	words := make([]uint64, MaxLen/64+1)
	words[MaxLen/64-1] = 1 << 63
	p, e = Of(1, MaxLen, words[:MaxLen/64])
	if e != api.OK || p.Len() != MaxLen || p.At(MaxLen-1) != 1 || p.At(MaxLen-2) != 0 || p.At(MaxLen) != 0 {
		t.Fatalf("Of(1, MaxLen, ..): %d", e)
	}
	if got := p.Find(0, MaxLen, 1); got != MaxLen-1 {
		t.Errorf("Find of the one at the end = %d", got)
	}
	if p, e := Of(1, MaxLen+1, words); p != nil || e != api.ErrArg {
		t.Errorf("Of(1, MaxLen + 1, ..): %d, want ErrArg", e)
	}
}

// P3.2: numbers that cross a word's end, told by hand.
func TestCrossing(t *testing.T) {
	p, e := Of(60, 3, []uint64{0xa<<60 | 7, 0xb<<56 | 0x123, 0xc})
	if e != api.OK {
		t.Fatal(e)
	}
	for i, want := range []uint64{7, 0x123a, 0xc0b} {
		if got := p.At(i); got != want {
			t.Errorf("At(%d) = %x, want %x", i, got, want)
		}
	}
	p, e = New(33, []uint64{0x1ffffffff, 0x100000001})
	if e != api.OK {
		t.Fatal(e)
	}
	if got := p.Words(); !slices.Equal(got, []uint64{0x3ffffffff, 2}) {
		t.Errorf("Words = %x", got)
	}
}

// findings asks for all places between all bounds, and for numbers beside each
// one that is there.
func findings(t *testing.T, p *Pack, l []uint64) {
	t.Helper()
	wanted := []uint64{0, 1, full - 1, full}
	for _, v := range l {
		wanted = append(wanted, v-1, v, v+1)
	}
	slices.Sort(wanted)
	wanted = slices.Compact(wanted)
	bounds := places(len(l))
	for _, lo := range bounds {
		for _, hi := range bounds {
			for _, v := range wanted {
				if got, want := p.Find(lo, hi, v), plainFind(l, lo, hi, v); got != want {
					t.Fatalf("width %d, %d: Find(%d, %d, %d) = %d, want %d", p.Width(), l, lo, hi, v, got, want)
				}
			}
		}
	}
}

// P3.3: Find among numbers of each width that do not fall.
func TestFind(t *testing.T) {
	for width := range 65 {
		s := spread(width * 5)
		for _, count := range []int{0, 1, 9} {
			l := mixed(&s, width, count)
			slices.Sort(l)
			p, e := New(width, l)
			if e != api.OK {
				t.Fatal(e)
			}
			findings(t, p, l)
		}
	}
}

// P3.3: few numbers, none, and many that are alike.
func TestFindAlike(t *testing.T) {
	for _, l := range [][]uint64{nil, {0}, {5}, {0, 0, 0}, {4, 4, 4, 4, 4}, {1, 1, 1, 3, 3, 3, 3, 9},
		{0, 2, 2, 2, 2, 2, 2, 2, 2, 2, 7}, {full}, {full, full}, {0, full}} {
		findings(t, Fit(l), l)
	}
}

// P3.3: numbers that fall, but not between the bounds.
func TestFindBetweenFalls(t *testing.T) {
	l := []uint64{9, 8, 1, 3, 3, 6, 2, 0, 7}
	p := Fit(l)
	for lo := range len(l) + 1 {
		for hi := range len(l) + 1 {
			if lo < hi && !slices.IsSorted(l[lo:hi]) {
				continue
			}
			for v := range uint64(12) {
				if got, want := p.Find(lo, hi, v), plainFind(l, lo, hi, v); got != want {
					t.Errorf("Find(%d, %d, %d) = %d, want %d", lo, hi, v, got, want)
				}
			}
		}
	}
}

// P3.3: Find told by hand.
func TestFindByHand(t *testing.T) {
	p := Fit([]uint64{2, 4, 4, 4, 7})
	for _, x := range []struct {
		lo, hi int
		v      uint64
		want   int
	}{
		{0, 5, 0, 0}, {0, 5, 2, 0}, {0, 5, 3, 1}, {0, 5, 4, 1}, {0, 5, 5, 4}, {0, 5, 7, 4}, {0, 5, 8, -1},
		{2, 5, 4, 2}, {2, 5, 0, 2}, {0, 4, 5, -1}, {-7, 5, 4, 1}, {math.MinInt, math.MaxInt, 7, 4}, {3, 99, 5, 4},
		{5, 99, 0, -1}, {4, 4, 0, -1}, {3, 2, 0, -1}, {0, 0, 0, -1}, {math.MaxInt, math.MinInt, 0, -1},
		{math.MinInt, -1, 0, -1}, {-2, 1, 0, 0}, {0, -1, 0, -1}, {99, 100, 0, -1}, {0, 5, full, -1},
	} {
		if got := p.Find(x.lo, x.hi, x.v); got != x.want {
			t.Errorf("Find(%d, %d, %d) = %d, want %d", x.lo, x.hi, x.v, got, x.want)
		}
	}
}

// Rule 1: among numbers that fall Find ends, too, and tells a place between the
// bounds or none.
func TestFindAmongFalling(t *testing.T) {
	p := Fit([]uint64{9, 0, 8, 1, 7, 2})
	for _, lo := range places(6) {
		for _, hi := range places(6) {
			for v := range uint64(11) {
				if got := p.Find(lo, hi, v); got != -1 && (got < lo || got >= hi || got < 0 || got > 5) {
					t.Errorf("Find(%d, %d, %d) = %d", lo, hi, v, got)
				}
			}
		}
	}
}

// P3.2, P3.3: what each call tells of nil.
func TestNil(t *testing.T) {
	var p *Pack
	check(t, "nil", p, 0, nil)
	findings(t, p, nil)
}

// P3.4: there and back, by the width, the length and the words.
func TestThereAndBack(t *testing.T) {
	for width := range 65 {
		for _, l := range lists(width) {
			p, e := New(width, l)
			if e != api.OK {
				t.Fatal(e)
			}
			for _, q := range []*Pack{p, Fit(l)} {
				back, e := Of(q.Width(), q.Len(), q.Words())
				if e != api.OK {
					t.Fatalf("Of(%d, %d, %x): %d", q.Width(), q.Len(), q.Words(), e)
				}
				check(t, "back", back, q.Width(), l)
			}
		}
	}
	var none *Pack
	back, e := Of(none.Width(), none.Len(), none.Words())
	if e != api.OK {
		t.Fatalf("nil: %d", e)
	}
	check(t, "nil back", back, 0, nil)
}

// Rule 4: lists handed in and answered are shared with nobody, and what lies
// behind their length is left alone.
func TestListsAreOwn(t *testing.T) {
	makers := map[string]func(l []uint64) *Pack{
		"New": func(l []uint64) *Pack { p, _ := New(64, l); return p },
		"Fit": Fit,
		"Of":  func(l []uint64) *Pack { p, _ := Of(64, len(l), l); return p },
	}
	for name, makePack := range makers {
		room := []uint64{full, 6, 3, 77, 88}
		want := slices.Clone(room[:3])
		p := makePack(room[:3])
		if !slices.Equal(room, []uint64{full, 6, 3, 77, 88}) {
			t.Errorf("%s: the list handed in is now %d", name, room)
		}
		room[0], room[1], room[2] = 1, 1, 1
		check(t, name+" after the list was changed", p, 64, want)
		answered := p.Words()
		for k := range answered {
			answered[k] = 0
		}
		_ = append(answered[:1], 5, 5)
		check(t, name+" after an answer was changed", p, 64, want)
	}
	room := []uint64{5, 2, 9}
	if p, e := New(2, room[:2]); p != nil || e != api.ErrRange || !slices.Equal(room, []uint64{5, 2, 9}) {
		t.Errorf("New(2, 5 2) = %v, %d, and the list is %d", p, e, room)
	}
}

// The same numbers in the same order are found among numbers of other kinds.
func TestFirstNotBelow(t *testing.T) {
	l := []float64{-2.5, -1, -1, 0, 3.5}
	for _, x := range []struct {
		lo, hi int
		v      float64
		want   int
	}{{0, 5, -3, 0}, {0, 5, -2, 1}, {0, 5, -1, 1}, {2, 5, -1, 2}, {0, 5, 1, 4}, {0, 5, 4, 5}, {3, 3, 0, 3}, {4, 2, 0, 4}} {
		if got := firstNotBelow(x.lo, x.hi, x.v, func(i int) float64 { return l[i] }); got != x.want {
			t.Errorf("firstNotBelow(%d, %d, %v) = %d, want %d", x.lo, x.hi, x.v, got, x.want)
		}
	}
}
