package bitrow

import (
	"locution/api"
	"math"
	"slices"
	"testing"
)

const full = math.MaxUint64

// spread is a source of mixed words that is the same each time.
type spread uint64

func (s *spread) next() uint64 {
	*s = *s*6364136223846793005 + 1442695040888963407
	x := uint64(*s)
	return x ^ x>>29
}

// adds are what one Add after another is given.
type adds []struct {
	w uint64
	n int
}

// cases are rows by name: none and few bits, words filled to the end and one bit
// less and more, ones and noughts alone, and widths of all kinds mixed.
func cases() map[string]adds {
	all := map[string]adds{
		"none":         nil,
		"none added":   {{0, 0}, {0, 0}},
		"example":      {{5, 3}, {1, 2}},
		"one":          {{1, 1}},
		"nought":       {{0, 1}},
		"63":           {{full >> 1, 63}},
		"64":           {{full, 64}},
		"65":           {{full, 64}, {1, 1}},
		"64 and none":  {{full, 64}, {0, 0}},
		"63 and 1":     {{0, 63}, {1, 1}},
		"63 and 2":     {{0, 63}, {3, 2}},
		"1 and 63":     {{1, 1}, {1<<63 - 1, 63}},
		"1 and 64":     {{0, 1}, {full, 64}},
		"128":          {{1 << 63, 64}, {1, 64}},
		"192":          {{full, 64}, {0, 64}, {1 << 63, 64}},
		"far between":  {{1, 64}, {0, 64}, {0, 64}, {0, 64}, {4, 3}},
		"noughts last": {{6, 3}, {0, 64}, {0, 64}, {0, 10}},
	}
	s := spread(7)
	for _, name := range []string{"mixed a", "mixed b", "mixed c", "mixed d"} {
		for range 40 {
			n := int(s.next() % 65)
			w := s.next() >> (64 - n) // a shift by 64 leaves 0
			all[name] = append(all[name], struct {
				w uint64
				n int
			}{w, n})
		}
	}
	return all
}

// made is the row of these Adds, and its bits by the plainest means.
func made(t *testing.T, l adds) (*Row, []bool) {
	t.Helper()
	r := New()
	var plain []bool
	for _, a := range l {
		if e := r.Add(a.w, a.n); e != api.OK {
			t.Fatalf("Add(%d, %d) = %d, want OK", a.w, a.n, e)
		}
		rest := a.w
		for range a.n {
			plain = append(plain, rest%2 == 1)
			rest /= 2
		}
	}
	return r, plain
}

func plainBit(plain []bool, i int) bool {
	return i >= 0 && i < len(plain) && plain[i]
}

func plainWords(plain []bool) []uint64 {
	var l []uint64
	for i, one := range plain {
		if i%64 == 0 {
			l = append(l, 0)
		}
		if one {
			l[i/64] += 1 << (i % 64)
		}
	}
	return l
}

func plainCut(plain []bool, at, n int) uint64 {
	w := uint64(0)
	for j := range max(0, min(n, 64)) {
		// Ahead of the row the sum may not wrap round, nor behind it.
		if at > len(plain) || at < -64 {
			break
		}
		if plainBit(plain, at+j) {
			w |= 1 << j
		}
	}
	return w
}

func plainNext(plain []bool, i int) int {
	for k := max(i, 0); k < len(plain); k++ {
		if plain[k] {
			return k
		}
	}
	return -1
}

// places are all ints about a row of n bits, and those far off on both sides.
func places(n int) []int {
	l := []int{math.MinInt, math.MinInt + 1, math.MinInt + 63, math.MinInt + 64, math.MinInt32, -1 << 40, -1000,
		1 << 32, math.MaxInt32, 1 << 40, math.MaxInt - 64, math.MaxInt - 63, math.MaxInt - 1, math.MaxInt}
	for i := -130; i <= n+130; i++ {
		l = append(l, i)
	}
	return l
}

// check holds all that r tells against plain.
func check(t *testing.T, name string, r *Row, plain []bool) {
	t.Helper()
	if got := r.Len(); got != len(plain) {
		t.Fatalf("%s: Len = %d, want %d", name, got, len(plain))
	}
	if got, want := r.Words(), plainWords(plain); !slices.Equal(got, want) {
		t.Fatalf("%s: Words = %x, want %x", name, got, want)
	}
	ones := 0
	for _, one := range plain {
		if one {
			ones++
		}
	}
	if got := r.Ones(); got != ones {
		t.Errorf("%s: Ones = %d, want %d", name, got, ones)
	}
	for _, i := range places(len(plain)) {
		if got, want := r.Bit(i), plainBit(plain, i); got != want {
			t.Errorf("%s: Bit(%d) = %v, want %v", name, i, got, want)
		}
		if got, want := r.Next(i), plainNext(plain, i); got != want {
			t.Errorf("%s: Next(%d) = %d, want %d", name, i, got, want)
		}
	}
}

// The chapter's example, number by number.
func TestExample(t *testing.T) {
	r := New()
	if e := r.Add(5, 3); e != api.OK {
		t.Errorf("Add(5, 3) = %d", e)
	}
	if e := r.Add(1, 2); e != api.OK {
		t.Errorf("Add(1, 2) = %d", e)
	}
	for i, want := range []bool{true, false, true, true, false} {
		if r.Bit(i) != want {
			t.Errorf("Bit(%d) = %v", i, !want)
		}
	}
	if got := r.Len(); got != 5 {
		t.Errorf("Len = %d", got)
	}
	if got := r.Cut(1, 3); got != 6 {
		t.Errorf("Cut(1, 3) = %d", got)
	}
	if got := r.Next(1); got != 2 {
		t.Errorf("Next(1) = %d", got)
	}
}

// P2.1: a new row has no bits; P2.1 and P2.3: after every Add all is as a plain
// list of bits tells it.
func TestAddedBits(t *testing.T) {
	check(t, "new", New(), nil)
	for name, l := range cases() {
		for upto := range len(l) + 1 {
			r, plain := made(t, l[:upto])
			check(t, name, r, plain)
		}
	}
}

// P2.1: what Add refuses, in which order, and that a refused Add changes nothing.
func TestAddRefused(t *testing.T) {
	wrong := []struct {
		w    uint64
		n    int
		want api.Errno
	}{
		{0, -1, api.ErrArg}, {0, 65, api.ErrArg}, {0, math.MinInt, api.ErrArg}, {0, math.MaxInt, api.ErrArg},
		{full, -1, api.ErrArg}, {full, 65, api.ErrArg}, {1, -64, api.ErrArg}, {1, 128, api.ErrArg},
		{1, 0, api.ErrRange}, {full, 0, api.ErrRange}, {2, 1, api.ErrRange}, {4, 2, api.ErrRange},
		{8, 3, api.ErrRange}, {1 << 32, 32, api.ErrRange}, {1 << 62, 62, api.ErrRange}, {1 << 63, 63, api.ErrRange},
		{full, 63, api.ErrRange},
	}
	for name, l := range cases() {
		r, plain := made(t, l)
		for _, x := range wrong {
			if got := r.Add(x.w, x.n); got != x.want {
				t.Errorf("%s: Add(%d, %d) = %d, want %d", name, x.w, x.n, got, x.want)
			}
		}
		check(t, name+" after refused Adds", r, plain)
	}
}

// P2.1: of each width from 0 to 64 the greatest word goes in, and the least one
// that is not below 2^n does not.
func TestAddEachWidth(t *testing.T) {
	for before := range 66 {
		for n := range 65 {
			r := New()
			for range before {
				r.Add(0, 1)
			}
			w := uint64(full)
			if n < 64 {
				w = 1<<n - 1
				if e := r.Add(w+1, n); e != api.ErrRange {
					t.Fatalf("Add(2^%d, %d) = %d, want ErrRange", n, n, e)
				}
			}
			if e := r.Add(w, n); e != api.OK {
				t.Fatalf("Add(2^%d - 1, %d) = %d, want OK", n, n, e)
			}
			if r.Len() != before+n || r.Ones() != n || r.Cut(before, 64) != w || len(r.Words()) != (before+n+63)/64 {
				t.Fatalf("%d ones behind %d noughts: Len %d, Ones %d, Cut %x, Words %x",
					n, before, r.Len(), r.Ones(), r.Cut(before, 64), r.Words())
			}
		}
	}
}

// P2.2: rows of words, whose bits do and do not fill the words to the end.
func TestOf(t *testing.T) {
	good := []struct {
		words []uint64
		n     int
	}{
		{nil, 0}, {[]uint64{}, 0}, {[]uint64{0}, 1}, {[]uint64{1}, 1}, {[]uint64{3}, 2}, {[]uint64{0}, 64},
		{[]uint64{full}, 64}, {[]uint64{full >> 1}, 63}, {[]uint64{full, 0}, 65}, {[]uint64{full, 1}, 65},
		{[]uint64{7, full >> 1}, 127}, {[]uint64{full, full}, 128}, {[]uint64{0, 0, 1 << 63}, 192},
		{[]uint64{0x0123456789abcdef, 0xfedcba9876543210, 5}, 131},
	}
	for _, x := range good {
		r, e := Of(x.words, x.n)
		if e != api.OK || r == nil {
			t.Errorf("Of(%x, %d) = %v, %d, want a row", x.words, x.n, r, e)
			continue
		}
		var plain []bool
		for i := range x.n {
			plain = append(plain, x.words[i/64]>>(i%64)%2 == 1)
		}
		check(t, "Of", r, plain)
	}
}

// P2.2: what Of refuses, in which order.
func TestOfRefused(t *testing.T) {
	wrong := []struct {
		words []uint64
		n     int
		want  api.Errno
	}{
		{nil, -1, api.ErrArg}, {nil, -64, api.ErrArg}, {nil, math.MinInt, api.ErrArg}, {nil, math.MaxInt, api.ErrArg},
		{[]uint64{0}, -1, api.ErrArg}, {[]uint64{full}, -64, api.ErrArg}, {[]uint64{0}, math.MaxInt, api.ErrArg},
		// Words too few, and too many.
		{nil, 1, api.ErrArg}, {nil, 64, api.ErrArg}, {[]uint64{0}, 65, api.ErrArg}, {[]uint64{full}, 128, api.ErrArg},
		{[]uint64{0}, 0, api.ErrArg}, {[]uint64{1, 0}, 2, api.ErrArg}, {[]uint64{0, 0}, 64, api.ErrArg},
		{[]uint64{0, 0, 0}, 128, api.ErrArg},
		// Words too many, and ones above the last bit as well: the count comes first.
		{[]uint64{1}, 0, api.ErrArg}, {[]uint64{4, 1}, 2, api.ErrArg}, {[]uint64{0, full}, 64, api.ErrArg},
		{[]uint64{2}, 1, api.ErrForm}, {[]uint64{4}, 2, api.ErrForm}, {[]uint64{1 << 63}, 1, api.ErrForm},
		{[]uint64{1 << 63}, 63, api.ErrForm}, {[]uint64{full}, 63, api.ErrForm}, {[]uint64{0, 2}, 65, api.ErrForm},
		{[]uint64{0, 1 << 63}, 127, api.ErrForm}, {[]uint64{full, full, 8}, 131, api.ErrForm},
	}
	for _, x := range wrong {
		if r, e := Of(x.words, x.n); r != nil || e != x.want {
			t.Errorf("Of(%x, %d) = %v, %d, want nil, %d", x.words, x.n, r, e, x.want)
		}
	}
}

// P2.3: cuts at all places and of all lengths, over the ends of words too.
func TestCut(t *testing.T) {
	lengths := []int{math.MinInt, math.MinInt + 1, -64, -1, 65, 66, 127, 128, 129, 1000, 1 << 32, math.MaxInt - 1, math.MaxInt}
	for n := range 65 {
		lengths = append(lengths, n)
	}
	for name, l := range cases() {
		r, plain := made(t, l[:min(len(l), 8)])
		for _, at := range places(len(plain)) {
			for _, n := range lengths {
				if got, want := r.Cut(at, n), plainCut(plain, at, n); got != want {
					t.Fatalf("%s: Cut(%d, %d) = %x, want %x", name, at, n, got, want)
				}
			}
		}
	}
}

// P2.3: cuts told by hand.
func TestCutByHand(t *testing.T) {
	r, e := Of([]uint64{0xf << 60, 0x5, 1}, 129)
	if e != api.OK {
		t.Fatal(e)
	}
	for _, x := range []struct {
		at, n int
		want  uint64
	}{
		{60, 8, 0x5f}, {60, 4, 0xf}, {60, 5, 0x1f}, {63, 2, 3}, {63, 64, 0xb}, {64, 64, 5}, {65, 64, 1<<63 | 2},
		{128, 64, 1}, {129, 1, 0}, {129, 64, 0}, {-4, 68, 0}, {-4, 64, 0}, {-1, 64, 0xe << 60}, {0, 64, 0xf << 60},
		{0, 65, 0xf << 60}, {60, 0, 0}, {60, -1, 0}, {math.MaxInt, math.MaxInt, 0}, {math.MinInt, math.MaxInt, 0},
	} {
		if got := r.Cut(x.at, x.n); got != x.want {
			t.Errorf("Cut(%d, %d) = %x, want %x", x.at, x.n, got, x.want)
		}
	}
}

// P2.3: a Next with none behind it, and one from each bit on.
func TestNextByHand(t *testing.T) {
	r, e := Of([]uint64{1, 0, 1 << 63, 2}, 200)
	if e != api.OK {
		t.Fatal(e)
	}
	for _, x := range [][2]int{{math.MinInt, 0}, {-1, 0}, {0, 0}, {1, 191}, {63, 191}, {64, 191}, {128, 191},
		{191, 191}, {192, 193}, {193, 193}, {194, -1}, {199, -1}, {200, -1}, {math.MaxInt, -1}} {
		if got := r.Next(x[0]); got != x[1] {
			t.Errorf("Next(%d) = %d, want %d", x[0], got, x[1])
		}
	}
}

// P2.3: rows are the same if their bits are, however they came to be.
func TestSame(t *testing.T) {
	all := cases()
	for a, la := range all {
		for b, lb := range all {
			ra, pa := made(t, la)
			rb, pb := made(t, lb)
			if got, want := Same(ra, rb), slices.Equal(pa, pb); got != want {
				t.Errorf("Same(%s, %s) = %v, want %v", a, b, got, want)
			}
		}
	}
	r, plain := made(t, all["mixed a"])
	single := New()
	for _, one := range plain {
		w := uint64(0)
		if one {
			w = 1
		}
		single.Add(w, 1)
	}
	if !Same(r, single) || !Same(single, r) || !Same(r, r) {
		t.Error("the same bits, added one by one, are not the same")
	}
	for i := range plain {
		words := plainWords(plain)
		words[i/64] ^= 1 << (i % 64)
		other, _ := Of(words, len(plain))
		if Same(r, other) || Same(other, r) {
			t.Errorf("rows that part at the bit %d are the same", i)
		}
	}
}

// P2.3: rows with the same words and unlike lengths are not the same.
func TestSameWordsOtherLength(t *testing.T) {
	a, _ := Of([]uint64{1}, 1)
	b, _ := Of([]uint64{1}, 2)
	if Same(a, b) || Same(b, a) {
		t.Error("1 and 10 are the same")
	}
}

// P2.1, P2.3: what each call tells of nil.
func TestNil(t *testing.T) {
	var r *Row
	for _, n := range []int{math.MinInt, -1, 0, 1, 64, 65, math.MaxInt} {
		for _, w := range []uint64{0, 1, full} {
			if e := r.Add(w, n); e != api.ErrState {
				t.Errorf("nil.Add(%d, %d) = %d, want ErrState", w, n, e)
			}
		}
	}
	check(t, "nil", r, nil)
	for _, at := range places(0) {
		for _, n := range []int{math.MinInt, -1, 0, 1, 64, 65, math.MaxInt} {
			if got := r.Cut(at, n); got != 0 {
				t.Errorf("nil.Cut(%d, %d) = %d", at, n, got)
			}
		}
	}
	nought := New()
	nought.Add(0, 1)
	if !Same(nil, nil) || !Same(nil, New()) || !Same(New(), nil) {
		t.Error("nil and a row without bits are not the same")
	}
	if Same(nil, nought) || Same(nought, nil) {
		t.Error("nil and a row of one nought are the same")
	}
}

// P2.4: there and back, by the words and the length.
func TestThereAndBack(t *testing.T) {
	for name, l := range cases() {
		r, plain := made(t, l)
		back, e := Of(r.Words(), r.Len())
		if e != api.OK || !Same(r, back) || !Same(back, r) {
			t.Errorf("%s: Of(Words, Len) = %v, %d: not the same", name, back, e)
			continue
		}
		check(t, name+" back", back, plain)
		// What is built on goes on alike.
		r.Add(0x2d, 6)
		back.Add(0x2d, 6)
		if !Same(r, back) {
			t.Errorf("%s: not the same after one more Add", name)
		}
	}
	var none *Row
	if back, e := Of(none.Words(), none.Len()); e != api.OK || !Same(none, back) {
		t.Errorf("nil: Of(Words, Len) = %v, %d", back, e)
	}
}

// Rule 4: lists handed in and answered are shared with nobody.
func TestListsAreOwn(t *testing.T) {
	room := []uint64{9, 6, 77, 88}
	r, e := Of(room[:2], 67)
	if e != api.OK {
		t.Fatal(e)
	}
	r.Add(full, 64)
	r.Add(full, 64)
	if !slices.Equal(room, []uint64{9, 6, 77, 88}) {
		t.Errorf("the list handed in is now %d", room)
	}
	want := slices.Clone(r.Words())
	room[0], room[1] = 0, 0
	if got := r.Words(); !slices.Equal(got, want) {
		t.Errorf("Words = %x after the list handed in was changed, want %x", got, want)
	}
	answered := r.Words()
	for k := range answered {
		answered[k] = 0
	}
	_ = append(answered[:1], 5, 5)
	if got := r.Words(); !slices.Equal(got, want) {
		t.Errorf("Words = %x after an answer was changed, want %x", got, want)
	}
	before := r.Words()
	r.Add(1, 1)
	if !slices.Equal(before, want) {
		t.Errorf("an answer is now %x, was %x", before, want)
	}
}

// Rows do not hang on each other.
func TestRowsAreApart(t *testing.T) {
	a, b := New(), New()
	a.Add(1, 1)
	if b.Len() != 0 || b.Ones() != 0 {
		t.Error("a bit of one row came to another")
	}
}
