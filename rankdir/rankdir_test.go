package rankdir

import (
	"fmt"
	"locution/api"
	"locution/bitrow"
	"math"
	"slices"
	"testing"
)

// spread is a source of mixed words that is the same each time.
type spread uint64

func (s *spread) next() uint64 {
	*s = *s*6364136223846793005 + 1442695040888963407
	x := uint64(*s)
	return x ^ x>>29
}

// kinds are ways to say which bits are ones.
func kinds() map[string]func(i int) bool {
	s := spread(11)
	var mixed, rare []bool
	for range 5000 {
		mixed = append(mixed, s.next()&1 == 1)
		rare = append(rare, s.next()%97 == 0)
	}
	return map[string]func(i int) bool{
		"ones":          func(i int) bool { return true },
		"noughts":       func(i int) bool { return false },
		"mixed":         func(i int) bool { return mixed[i] },
		"rare":          func(i int) bool { return rare[i] },
		"often":         func(i int) bool { return !rare[i] },
		"span begins":   func(i int) bool { return i%512 == 0 },
		"span ends":     func(i int) bool { return i%512 == 511 },
		"word begins":   func(i int) bool { return i%64 == 0 },
		"word ends":     func(i int) bool { return i%64 == 63 },
		"spans by turn": func(i int) bool { return i/512%2 == 1 },
		"words by turn": func(i int) bool { return i/64%2 == 0 },
	}
}

// lengths are none and few bits, and all about the ends of words and of spans.
func lengths() []int {
	l := []int{0, 1, 2, 5, 31}
	for _, end := range []int{64, 128, 448, 512, 576, 1024, 1536, 2048, 4096} {
		l = append(l, end-1, end, end+1)
	}
	return append(l, 300, 700, 1285, 3000)
}

// bitsOf is n bits of that kind.
func bitsOf(is func(i int) bool, n int) []bool {
	bits := make([]bool, n)
	for i := range bits {
		bits[i] = is(i)
	}
	return bits
}

// rowOf is the row of these bits, added one by one.
func rowOf(t *testing.T, bits []bool) *bitrow.Row {
	t.Helper()
	r := bitrow.New()
	for _, one := range bits {
		w := uint64(0)
		if one {
			w = 1
		}
		if e := r.Add(w, 1); e != api.OK {
			t.Fatalf("Add: error %d", e)
		}
	}
	return r
}

// plainRanks counts the ones below each number from 0 to the length.
func plainRanks(bits []bool) []int {
	ranks := []int{0}
	ones := 0
	for _, one := range bits {
		if one {
			ones++
		}
		ranks = append(ranks, ones)
	}
	return ranks
}

// plainMarks looks at each bit number that is a multiple of 512.
func plainMarks(bits []bool) []int {
	ranks := plainRanks(bits)
	var marks []int
	for i := 0; i < len(bits); i += 512 {
		marks = append(marks, ranks[i])
	}
	return append(marks, ranks[len(bits)])
}

// below are ints below 0, near and far.
func below() []int {
	return []int{-1, -2, -63, -64, -65, -511, -512, -513, math.MinInt32, -1 << 40, math.MinInt + 1, math.MinInt}
}

// above are ints above n, near and far.
func above(n int) []int {
	return []int{n + 1, n + 2, n + 63, n + 64, n + 65, n + 511, n + 512, n + 513, n + 100000,
		math.MaxInt32, 1 << 32, 1 << 40, 1 << 62, math.MaxInt - 1, math.MaxInt}
}

// check holds all that d tells against the bits.
func check(t *testing.T, name string, d *Dir, bits []bool) {
	t.Helper()
	n := len(bits)
	if got := d.Len(); got != n {
		t.Fatalf("%s: Len = %d, want %d", name, got, n)
	}
	ranks := plainRanks(bits)
	for i := range n + 1 {
		checkAt(t, name, d, i, ranks[i], i-ranks[i])
	}
	for _, i := range below() {
		checkAt(t, name, d, i, 0, 0)
	}
	for _, i := range above(n) {
		checkAt(t, name, d, i, ranks[n], n-ranks[n])
	}
	if got, want := d.Marks(), plainMarks(bits); !slices.Equal(got, want) {
		t.Fatalf("%s: Marks = %v, want %v", name, got, want)
	}
}

func checkAt(t *testing.T, name string, d *Dir, i, ones, noughts int) {
	t.Helper()
	if got := d.Rank(i); got != ones {
		t.Fatalf("%s: Rank(%d) = %d, want %d", name, i, got, ones)
	}
	if got := d.Zeros(i); got != noughts {
		t.Fatalf("%s: Zeros(%d) = %d, want %d", name, i, got, noughts)
	}
}

// The chapter's first example.
func TestExample(t *testing.T) {
	r := bitrow.New()
	r.Add(13, 5)
	d := New(r)
	if d.Len() != 5 || d.Rank(3) != 2 || d.Zeros(3) != 1 {
		t.Errorf("Len %d, Rank(3) %d, Zeros(3) %d, want 5, 2, 1", d.Len(), d.Rank(3), d.Zeros(3))
	}
	if got := d.Marks(); !slices.Equal(got, []int{0, 3}) {
		t.Errorf("Marks = %v, want 0, 3", got)
	}
	check(t, "example", d, []bool{true, false, true, true, false})
}

func TestSpan(t *testing.T) {
	if Span != 512 {
		t.Errorf("Span = %d, want 512", Span)
	}
}

// P4.1: rows of all kinds, of all lengths about the ends of words and spans.
func TestAgainstPlainBits(t *testing.T) {
	for kind, is := range kinds() {
		for _, n := range lengths() {
			bits := bitsOf(is, n)
			check(t, fmt.Sprintf("%s, %d bits", kind, n), New(rowOf(t, bits)), bits)
		}
	}
}

// P4.1: a row that was made of words at once.
func TestRowOfWords(t *testing.T) {
	s := spread(5)
	var words []uint64
	for range 25 {
		words = append(words, s.next())
	}
	bits := make([]bool, 64*len(words))
	for i := range bits {
		bits[i] = words[i/64]>>(i%64)&1 == 1
	}
	r, e := bitrow.Of(words, len(bits))
	if e != api.OK {
		t.Fatalf("Of: error %d", e)
	}
	check(t, "of words", New(r), bits)
}

// P4.1: how many marks there are, told apart from the plain reckoning.
func TestMarks(t *testing.T) {
	ones := func(i int) bool { return true }
	for _, c := range []struct {
		n     int
		marks []int
	}{
		{0, []int{0}},
		{1, []int{0, 1}},
		{511, []int{0, 511}},
		{512, []int{0, 512}},
		{513, []int{0, 512, 513}},
		{1023, []int{0, 512, 1023}},
		{1024, []int{0, 512, 1024}},
		{1025, []int{0, 512, 1024, 1025}},
		{1088, []int{0, 512, 1024, 1088}},
	} {
		if got := New(rowOf(t, bitsOf(ones, c.n))).Marks(); !slices.Equal(got, c.marks) {
			t.Errorf("%d ones: Marks = %v, want %v", c.n, got, c.marks)
		}
		noughts := make([]int, len(c.marks))
		if got := New(rowOf(t, make([]bool, c.n))).Marks(); !slices.Equal(got, noughts) {
			t.Errorf("%d noughts: Marks = %v, want %v", c.n, got, noughts)
		}
	}
}

// P4.1: a nil directory has no bits and no marks, not even the one of all ones.
func TestNilDir(t *testing.T) {
	var d *Dir
	if d.Len() != 0 {
		t.Errorf("Len = %d, want 0", d.Len())
	}
	for _, i := range append(append(below(), 0), above(0)...) {
		checkAt(t, "nil", d, i, 0, 0)
	}
	if got := d.Marks(); len(got) != 0 {
		t.Errorf("Marks = %v, want none", got)
	}
}

// P4.1: the directory of a nil row is one of no bits, as that of an empty row.
func TestNilRow(t *testing.T) {
	d := New(nil)
	if d == nil {
		t.Fatal("New(nil) is nil")
	}
	check(t, "nil row", d, nil)
	e := New(bitrow.New())
	if e == nil {
		t.Fatal("New of an empty row is nil")
	}
	check(t, "empty row", e, nil)
}

// The head of the chapter: a directory is of the row as it is when it is made.
func TestRowAddedToLater(t *testing.T) {
	mixed := kinds()["mixed"]
	for _, n := range lengths() {
		bits := bitsOf(mixed, n)
		r := rowOf(t, bits)
		d := New(r)
		for range 20 {
			r.Add(math.MaxUint64, 64)
			check(t, fmt.Sprintf("%d bits, row added to", n), d, bits)
		}
		if got := New(r).Len(); got != n+20*64 {
			t.Fatalf("%d bits: a new directory of the longer row: Len = %d", n, got)
		}
		check(t, fmt.Sprintf("%d bits, behind another New", n), d, bits)
	}
}

// New leaves the row as it was.
func TestRowUnchanged(t *testing.T) {
	bits := bitsOf(kinds()["mixed"], 1300)
	r := rowOf(t, bits)
	d := New(r)
	d.Rank(700)
	d.Marks()[1] = 99
	if !bitrow.Same(r, rowOf(t, bits)) {
		t.Error("the row was changed")
	}
}

// Marks are the caller's own, within their length and behind it.
func TestMarksChanged(t *testing.T) {
	for _, n := range lengths() {
		bits := bitsOf(kinds()["often"], n)
		d := New(rowOf(t, bits))
		marks := d.Marks()
		other := slices.Clone(d.Marks())
		kept := d.Marks()
		whole := marks[:cap(marks)]
		for k := range whole {
			whole[k] = -7 - k
		}
		check(t, fmt.Sprintf("%d bits, marks changed", n), d, bits)
		if !slices.Equal(kept, other) {
			t.Errorf("%d bits: two lists of marks share memory", n)
		}
	}
}

// P4.2: Rank and Zeros are i together, and Rank rises by one just behind a one.
func TestTogether(t *testing.T) {
	for kind, is := range kinds() {
		for _, n := range lengths() {
			r := rowOf(t, bitsOf(is, n))
			d := New(r)
			for i := range n + 1 {
				if d.Rank(i)+d.Zeros(i) != i {
					t.Fatalf("%s, %d bits: Rank and Zeros of %d: %d and %d", kind, n, i, d.Rank(i), d.Zeros(i))
				}
				rise := d.Rank(i+1) - d.Rank(i)
				if want := r.Bit(i); (rise == 1) != want || (rise == 0) == want {
					t.Fatalf("%s, %d bits: Rank rises by %d behind the bit %d, which is one: %v", kind, n, rise, i, want)
				}
			}
		}
	}
}

// Marks are what Rank tells of the bits at which spans begin, and of the length.
func TestMarksAreRanks(t *testing.T) {
	for kind, is := range kinds() {
		for _, n := range lengths() {
			d := New(rowOf(t, bitsOf(is, n)))
			marks := d.Marks()
			for k := range marks {
				if got := d.Rank(min(k*Span, n)); got != marks[k] {
					t.Fatalf("%s, %d bits: mark %d is %d, Rank tells %d", kind, n, k, marks[k], got)
				}
			}
		}
	}
}
