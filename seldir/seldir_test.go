package seldir

import (
	"fmt"
	"iter"
	"locution/api"
	"locution/bitrow"
	"locution/rankdir"
	"math"
	"slices"
	"testing"
)

// pair is what one round of a going over tells.
type pair struct{ which, at int }

// mixed tells bits that look as if by chance, one in about every so many of them
// a one; they are the same each time.
func mixed(every uint64) func(i int) bool {
	return func(i int) bool {
		x := (uint64(i) + 1) * 0x9e3779b97f4a7c15
		x ^= x >> 31
		x *= 0xbf58476d1ce4e5b9
		x ^= x >> 29
		return x%every == 0
	}
}

// kinds are ways to say which bits are ones.
func kinds() map[string]func(i int) bool {
	return map[string]func(i int) bool{
		"ones":              func(i int) bool { return true },
		"noughts":           func(i int) bool { return false },
		"half":              mixed(2),
		"few ones":          mixed(90),
		"very few ones":     mixed(1400),
		"few noughts":       func(i int) bool { return !mixed(90)(i) },
		"very few noughts":  func(i int) bool { return !mixed(1400)(i) },
		"by turn":           func(i int) bool { return i%2 == 0 },
		"first of words":    func(i int) bool { return i%64 == 0 },
		"last of words":     func(i int) bool { return i%64 == 63 },
		"first of spans":    func(i int) bool { return i%rankdir.Span == 0 },
		"last of spans":     func(i int) bool { return i%rankdir.Span == rankdir.Span-1 },
		"all but the first": func(i int) bool { return i%rankdir.Span != 0 },
		"all but the last":  func(i int) bool { return i%rankdir.Span != rankdir.Span-1 },
		"words by turn":     func(i int) bool { return i/64%2 == 1 },
		"spans by turn":     func(i int) bool { return i/rankdir.Span%2 == 0 },
		"ones behind":       func(i int) bool { return i >= 1024 },
		"noughts behind":    func(i int) bool { return i < 1024 },
		"the first bit":     func(i int) bool { return i == 0 },
	}
}

// lengths are those of rows that end within a word and at a word's end, in one
// span, at its end and behind it.
func lengths() []int {
	return []int{0, 1, 2, 5, 40, 63, 64, 65, 100, 127, 128, 129, 447, 448, 449, 510, 511, 512, 513, 514,
		575, 576, 577, 1000, 1023, 1024, 1025, 1087, 1088, 1089, 1535, 1536, 1537, 2600}
}

// bitsOf is n bits of that kind.
func bitsOf(is func(i int) bool, n int) []bool {
	var bits []bool
	for i := range n {
		bits = append(bits, is(i))
	}
	return bits
}

// rowOf is the row of these bits, made of words at once.
func rowOf(t *testing.T, bits []bool) *bitrow.Row {
	t.Helper()
	words := make([]uint64, (len(bits)+63)/64)
	for i, one := range bits {
		if one {
			words[i/64] |= 1 << (i % 64)
		}
	}
	r, e := bitrow.Of(words, len(bits))
	if e != api.OK {
		t.Fatalf("Of: error %d", e)
	}
	return r
}

// numbersOf lists the numbers of the bits that are as wanted, in order.
func numbersOf(bits []bool, wanted bool) []int {
	var numbers []int
	for i, one := range bits {
		if one == wanted {
			numbers = append(numbers, i)
		}
	}
	return numbers
}

// far are ints that count no bit of a row with so many of them.
func far(count int) []int {
	return []int{-1, -2, -63, -64, -65, -512, math.MinInt32, -1 << 40, math.MinInt + 1, math.MinInt,
		count, count + 1, count + 63, count + 64, count + 65, count + 511, count + 512, count + 513,
		math.MaxInt32, 1 << 32, 1 << 40, 1 << 62, math.MaxInt - 1, math.MaxInt}
}

// pairsFrom lists what From(k) has to tell.
func pairsFrom(ones []int, k int) []pair {
	var pairs []pair
	for which, at := range ones {
		if which >= k {
			pairs = append(pairs, pair{which, at})
		}
	}
	return pairs
}

// upTo lists what a going over tells, and ends it in the round stop, if it comes
// so far.
func upTo(seq iter.Seq2[int, int], stop int) []pair {
	var pairs []pair
	for which, at := range seq {
		pairs = append(pairs, pair{which, at})
		if len(pairs) == stop {
			break
		}
	}
	return pairs
}

// whole lists all that a going over tells.
func whole(seq iter.Seq2[int, int]) []pair { return upTo(seq, -1) }

// starts are places from which the ones are gone over: below the first one, at
// it, in the midst, at the last one and behind it.
func starts(count int) []int {
	return append(far(count), 0, 1, count/3, count/2, count-2, count-1)
}

// check holds all that d tells against the bits.
func check(t *testing.T, name string, d *Dir, bits []bool) {
	t.Helper()
	ones := numbersOf(bits, true)
	if got := d.Ones(); got != len(ones) {
		t.Fatalf("%s: Ones = %d, want %d", name, got, len(ones))
	}
	checkNumbers(t, name+": One", d.One, ones)
	checkNumbers(t, name+": Zero", d.Zero, numbersOf(bits, false))
	for _, k := range starts(len(ones)) {
		if got, want := whole(d.From(k)), pairsFrom(ones, k); !slices.Equal(got, want) {
			t.Fatalf("%s: From(%d) = %v, want %v", name, k, got, want)
		}
	}
}

// checkNumbers holds what a call tells of each k, and of those that there are
// not, against the numbers of the bits.
func checkNumbers(t *testing.T, name string, call func(k int) int, numbers []int) {
	t.Helper()
	for k, want := range numbers {
		if got := call(k); got != want {
			t.Fatalf("%s(%d) = %d, want %d", name, k, got, want)
		}
	}
	for _, k := range far(len(numbers)) {
		if got := call(k); got != -1 {
			t.Fatalf("%s(%d) = %d, want -1: there are %d", name, k, got, len(numbers))
		}
	}
}

// each calls a test for rows of all kinds and lengths.
func each(t *testing.T, test func(name string, bits []bool)) {
	t.Helper()
	for kind, is := range kinds() {
		for _, n := range lengths() {
			test(fmt.Sprintf("%s, %d bits", kind, n), bitsOf(is, n))
		}
	}
}

// The chapter's first example.
func TestExample(t *testing.T) {
	r := bitrow.New()
	r.Add(13, 5)
	d := New(r)
	if d.One(1) != 2 || d.Zero(1) != 4 || d.One(3) != -1 {
		t.Errorf("One(1) %d, Zero(1) %d, One(3) %d, want 2, 4, -1", d.One(1), d.Zero(1), d.One(3))
	}
	if got := whole(d.From(1)); !slices.Equal(got, []pair{{1, 2}, {2, 3}}) {
		t.Errorf("From(1) = %v, want 1 2, 2 3", got)
	}
	if d.Ones() != 3 {
		t.Errorf("Ones = %d, want 3", d.Ones())
	}
	check(t, "example", d, []bool{true, false, true, true, false})
}

// P5.1, P5.2: rows of all kinds, of lengths about the ends of words and spans.
func TestAgainstPlainBits(t *testing.T) {
	each(t, func(name string, bits []bool) { check(t, name, New(rowOf(t, bits)), bits) })
}

// P5.1: a row that was made bit by bit, and one whose adds lie across words.
func TestRowsAdded(t *testing.T) {
	bits := bitsOf(mixed(3), 1300)
	bitwise, parts := bitrow.New(), bitrow.New()
	w, used := uint64(0), 0
	for i, one := range bits {
		b := uint64(0)
		if one {
			b = 1
		}
		bitwise.Add(b, 1)
		w |= b << used
		used++
		if used == 37 || i == len(bits)-1 {
			parts.Add(w, used)
			w, used = 0, 0
		}
	}
	check(t, "bit by bit", New(bitwise), bits)
	check(t, "37 at a time", New(parts), bits)
}

// P5.1: One, Zero and Ones told by hand at the ends of words and spans.
func TestByHand(t *testing.T) {
	allOnes := func(i int) bool { return true }
	for _, n := range []int{1, 63, 64, 65, 511, 512, 513, 1024} {
		ones := New(rowOf(t, bitsOf(allOnes, n)))
		if ones.Ones() != n || ones.One(0) != 0 || ones.One(n-1) != n-1 || ones.One(n) != -1 || ones.Zero(0) != -1 {
			t.Errorf("%d ones: Ones %d, One %d %d %d, Zero(0) %d", n,
				ones.Ones(), ones.One(0), ones.One(n-1), ones.One(n), ones.Zero(0))
		}
		noughts := New(rowOf(t, make([]bool, n)))
		if noughts.Ones() != 0 || noughts.Zero(0) != 0 || noughts.Zero(n-1) != n-1 || noughts.Zero(n) != -1 || noughts.One(0) != -1 {
			t.Errorf("%d noughts: Ones %d, Zero %d %d %d, One(0) %d", n,
				noughts.Ones(), noughts.Zero(0), noughts.Zero(n-1), noughts.Zero(n), noughts.One(0))
		}
	}
}

// P5.1: a last word that is not full holds no noughts behind the row's end.
func TestNoNoughtBehindTheEnd(t *testing.T) {
	each(t, func(name string, bits []bool) {
		d := New(rowOf(t, bits))
		noughts := len(bits) - d.Ones()
		for k := noughts; k < noughts+700; k++ {
			if got := d.Zero(k); got != -1 {
				t.Fatalf("%s: Zero(%d) = %d, but there are %d noughts", name, k, got, noughts)
			}
		}
	})
}

// P5.1, P5.2: a nil directory has no ones and no noughts.
func TestNilDir(t *testing.T) {
	var d *Dir
	check(t, "nil", d, nil)
	if d.From(0) == nil || d.From(-1) == nil || d.From(math.MaxInt) == nil {
		t.Error("From of nil is no function")
	}
}

// P5.1: the directory of a nil row is one of no bits, as that of an empty row.
func TestNoBits(t *testing.T) {
	empty := bitrow.New()
	empty.Add(0, 0)
	for name, r := range map[string]*bitrow.Row{"nil row": nil, "new row": bitrow.New(), "nothing added": empty} {
		d := New(r)
		if d == nil {
			t.Fatalf("%s: New is nil", name)
		}
		check(t, name, d, nil)
		if d.From(0) == nil || d.From(7) == nil {
			t.Errorf("%s: From is no function", name)
		}
	}
}

// The head of the chapter: a directory is of the row as it is when it is made.
func TestRowAddedToLater(t *testing.T) {
	for _, n := range lengths() {
		bits := bitsOf(mixed(3), n)
		r := rowOf(t, bits)
		d := New(r)
		begun := d.From(0)
		for _, w := range []uint64{math.MaxUint64, 0, 1 << 63, 1, 0x5555555555555555, math.MaxUint64, 0, 7, 7, 7} {
			r.Add(w, 64)
			check(t, fmt.Sprintf("%d bits, row added to", n), d, bits)
		}
		if got := whole(begun); !slices.Equal(got, pairsFrom(numbersOf(bits, true), 0)) {
			t.Fatalf("%d bits: From that was asked ahead of the adding tells %v", n, got)
		}
		if got, want := New(r).Ones(), r.Ones(); got != want {
			t.Fatalf("%d bits: a new directory of the longer row: Ones = %d, want %d", n, got, want)
		}
		check(t, fmt.Sprintf("%d bits, behind another New", n), d, bits)
	}
}

// The head of the chapter: bits that come while the ones are gone over are none
// of the directory's.
func TestRowAddedToWithin(t *testing.T) {
	bits := bitsOf(mixed(5), 700)
	r := rowOf(t, bits)
	var got []pair
	for which, at := range New(r).From(0) {
		got = append(got, pair{which, at})
		r.Add(3, 2)
	}
	if want := pairsFrom(numbersOf(bits, true), 0); !slices.Equal(got, want) {
		t.Errorf("From = %v, want %v", got, want)
	}
}

// The calls leave the row as it was.
func TestRowUnchanged(t *testing.T) {
	each(t, func(name string, bits []bool) {
		r := rowOf(t, bits)
		d := New(r)
		d.One(d.Ones() - 1)
		d.Zero(len(bits) / 2)
		whole(d.From(0))
		if !bitrow.Same(r, rowOf(t, bits)) {
			t.Fatalf("%s: the row was changed", name)
		}
	})
}

// P5.2: one going over is gone over twice, wholly, and behind one that was ended
// early, in its first round and in the midst.
func TestFromAgain(t *testing.T) {
	each(t, func(name string, bits []bool) {
		d := New(rowOf(t, bits))
		ones := numbersOf(bits, true)
		for _, k := range starts(len(ones)) {
			seq := d.From(k)
			want := pairsFrom(ones, k)
			for round, stop := range []int{1, 2, len(want)/2 + 1, len(want), -1, -1, 1, -1} {
				part := want
				if stop >= 0 {
					part = want[:min(stop, len(want))]
				}
				if got := upTo(seq, stop); !slices.Equal(got, part) {
					t.Fatalf("%s: From(%d), gone over for the time %d, ended in its round %d: %v, want %v",
						name, k, round, stop, got, part)
				}
			}
		}
		check(t, name+", behind all goings over", d, bits)
	})
}

// P5.2: behind an early end nothing more is told.
func TestFromEndedEarly(t *testing.T) {
	each(t, func(name string, bits []bool) {
		d := New(rowOf(t, bits))
		for _, k := range []int{-1, 0, d.Ones() / 2, d.Ones() - 1} {
			left := d.Ones() - max(k, 0)
			for _, stop := range []int{1, 2, 64, left - 1, left} {
				if stop < 1 || stop > left {
					continue
				}
				calls := 0
				d.From(k)(func(which, at int) bool {
					calls++
					return calls < stop
				})
				if calls != stop {
					t.Fatalf("%s: From(%d), ended in its round %d, told %d", name, k, stop, calls)
				}
			}
		}
	})
}

// P5.2: one going over within another of the same function begins on its own.
func TestFromWithin(t *testing.T) {
	bits := bitsOf(mixed(7), 1100)
	d := New(rowOf(t, bits))
	want := pairsFrom(numbersOf(bits, true), 2)
	seq := d.From(2)
	var outer []pair
	for which, at := range seq {
		outer = append(outer, pair{which, at})
		if inner := whole(seq); !slices.Equal(inner, want) {
			t.Fatalf("within the round %d: %v, want %v", which, inner, want)
		}
	}
	if !slices.Equal(outer, want) {
		t.Errorf("the outer one: %v, want %v", outer, want)
	}
}

// P5.3: One rises with k, is a one, and between it and the next one are noughts
// alone; ahead of the first one and behind the last one, too.
func TestOnesRise(t *testing.T) {
	each(t, func(name string, bits []bool) {
		r := rowOf(t, bits)
		d := New(r)
		last := -1
		for k := range d.Ones() {
			at := d.One(k)
			if at <= last || !r.Bit(at) {
				t.Fatalf("%s: One(%d) = %d behind %d, is a one: %v", name, k, at, last, r.Bit(at))
			}
			noughtsOnly(t, name, r, last+1, at)
			last = at
		}
		noughtsOnly(t, name, r, last+1, len(bits))
	})
}

// noughtsOnly fails if a bit from the one number to below the other is a one.
func noughtsOnly(t *testing.T, name string, r *bitrow.Row, from, to int) {
	t.Helper()
	for i := from; i < to; i++ {
		if r.Bit(i) {
			t.Fatalf("%s: the bit %d is a one, and no One(k)", name, i)
		}
	}
}

// One and Zero undo what rankdir tells, in a row of many spans.
func TestUndoesRank(t *testing.T) {
	for _, every := range []uint64{2, 17, 3000} {
		bits := bitsOf(mixed(every), 200_003)
		r := rowOf(t, bits)
		d, ranks := New(r), rankdir.New(r)
		for i, one := range bits {
			got := d.Zero(ranks.Zeros(i))
			if one {
				got = d.One(ranks.Rank(i))
			}
			if got != i {
				t.Fatalf("one in %d: the bit %d, which is one: %v, was found at %d", every, i, one, got)
			}
		}
		if got, want := whole(d.From(-5)), pairsFrom(numbersOf(bits, true), 0); !slices.Equal(got, want) {
			t.Fatalf("one in %d: From tells other ones", every)
		}
	}
}

// A row whose ones lie many empty spans apart.
func TestEmptySpans(t *testing.T) {
	at := map[int]bool{0: true, 1: true, 511: true, 512: true, 40_000: true, 65_535: true, 65_536: true, 99_999: true}
	is := func(i int) bool { return at[i] }
	for _, n := range []int{100_000, 100_001, 102_400} {
		bits := bitsOf(is, n)
		check(t, fmt.Sprintf("far apart, %d bits", n), New(rowOf(t, bits)), bits)
		full := bitsOf(func(i int) bool { return !is(i) }, n)
		check(t, fmt.Sprintf("far apart noughts, %d bits", n), New(rowOf(t, full)), full)
	}
}
