package lane

import (
	"math"
	"math/bits"
	"testing"
)

const full = math.MaxUint64

// words are the two ends, every single bit and its complement, runs of ones from both
// sides, patterns, and a fixed spread of mixed words.
func words() []uint64 {
	l := []uint64{0, full, 22, 1, 3, 1 << 63, 1<<63 | 1, 0x5555555555555555, 0xaaaaaaaaaaaaaaaa,
		0x00000000ffffffff, 0xffffffff00000000, 0x0123456789abcdef, 0xfedcba9876543210}
	for i := range 64 {
		one := uint64(1) << i
		l = append(l, one, ^one, one-1, ^(one - 1))
	}
	x := uint64(1)
	for range 200 {
		x = x*6364136223846793005 + 1442695040888963407
		mixed := x ^ x>>29
		l = append(l, mixed, mixed&(x<<17), mixed|x>>5)
	}
	return l
}

// places are all ints near a word, and those far off on both sides.
func places() []int {
	l := []int{math.MinInt, math.MinInt + 1, math.MinInt + 64, math.MinInt32, -1 << 40, -1000, -256, -128,
		128, 256, 1000, 1 << 32, 1<<32 + 1, math.MaxInt32, math.MaxInt - 64, math.MaxInt - 1, math.MaxInt}
	for i := -66; i <= 130; i++ {
		l = append(l, i)
	}
	return l
}

// bit is the bit i of w, read the plainest way; false where there is none.
func bit(w uint64, i int) bool {
	if i < 0 || i > 63 {
		return false
	}
	for range i {
		w /= 2
	}
	return w%2 == 1
}

// onesOf are the numbers of the ones of w, the lowest first.
func onesOf(w uint64) []int {
	var l []int
	for i := range 64 {
		if bit(w, i) {
			l = append(l, i)
		}
	}
	return l
}

// gone is all that Pairs tells.
func gone(w uint64) [][2]int {
	var l [][2]int
	for k, i := range Pairs(w) {
		l = append(l, [2]int{k, i})
	}
	return l
}

// The chapter's example, number by number.
func TestExample(t *testing.T) {
	if got := Ones(22); got != 3 {
		t.Errorf("Ones(22) = %d, want 3", got)
	}
	if got := Rank(22, 3); got != 2 {
		t.Errorf("Rank(22, 3) = %d, want 2", got)
	}
	if got := Select(22, 2); got != 4 {
		t.Errorf("Select(22, 2) = %d, want 4", got)
	}
	if got := Cut(22, 1, 3); got != 3 {
		t.Errorf("Cut(22, 1, 3) = %d, want 3", got)
	}
	if got := Width(22); got != 5 {
		t.Errorf("Width(22) = %d, want 5", got)
	}
}

// P1.1: Ones counts the bits that are one.
func TestOnes(t *testing.T) {
	if Ones(0) != 0 || Ones(full) != 64 {
		t.Errorf("Ones of the ends: %d and %d, want 0 and 64", Ones(0), Ones(full))
	}
	for _, w := range words() {
		if got, want := Ones(w), len(onesOf(w)); got != want {
			t.Errorf("Ones(%#x) = %d, want %d", w, got, want)
		}
	}
}

// P1.1: Rank counts the ones below i, with i held between 0 and 64.
func TestRank(t *testing.T) {
	for _, w := range words() {
		ones := onesOf(w)
		for _, i := range places() {
			want := 0
			for _, o := range ones {
				if o < i {
					want++
				}
			}
			if got := Rank(w, i); got != want {
				t.Errorf("Rank(%#x, %d) = %d, want %d", w, i, got, want)
			}
		}
	}
}

// P1.1: the edges of Rank that the document names, told by hand.
func TestRankEdges(t *testing.T) {
	for _, c := range []struct {
		w       uint64
		i, want int
	}{
		{full, 0, 0}, {full, -1, 0}, {full, math.MinInt, 0},
		{full, 1, 1}, {full, 63, 63}, {full, 64, 64}, {full, 65, 64}, {full, math.MaxInt, 64},
		{1 << 63, 63, 0}, {1 << 63, 64, 1}, {1 << 63, 65, 1},
		{1, 0, 0}, {1, 1, 1}, {0, 64, 0}, {0, math.MaxInt, 0},
	} {
		if got := Rank(c.w, c.i); got != c.want {
			t.Errorf("Rank(%#x, %d) = %d, want %d", c.w, c.i, got, c.want)
		}
	}
}

// P1.1: Select finds the one with just k ones below it, or tells -1.
func TestSelect(t *testing.T) {
	for _, w := range words() {
		ones := onesOf(w)
		for _, k := range places() {
			want := -1
			if k >= 0 && k < len(ones) {
				want = ones[k]
			}
			if got := Select(w, k); got != want {
				t.Errorf("Select(%#x, %d) = %d, want %d", w, k, got, want)
			}
		}
	}
}

// P1.1: the edges of Select, told by hand.
func TestSelectEdges(t *testing.T) {
	for _, c := range []struct {
		w       uint64
		k, want int
	}{
		{0, 0, -1}, {0, -1, -1}, {22, -1, -1}, {22, 0, 1}, {22, 3, -1},
		{1 << 63, 0, 63}, {1 << 63, 1, -1}, {1, 0, 0},
		{full, 0, 0}, {full, 63, 63}, {full, 64, -1},
		{full, math.MinInt, -1}, {full, math.MaxInt, -1},
	} {
		if got := Select(c.w, c.k); got != c.want {
			t.Errorf("Select(%#x, %d) = %d, want %d", c.w, c.k, got, c.want)
		}
	}
}

// P1.2: Mask has ones just below n, with n held between 0 and 64.
func TestMask(t *testing.T) {
	for _, n := range places() {
		got := Mask(n)
		for i := range 64 {
			if bit(got, i) != (i < n) {
				t.Errorf("Mask(%d) = %#x: bit %d is wrong", n, got, i)
				break
			}
		}
	}
	if Mask(-1) != 0 || Mask(0) != 0 || Mask(1) != 1 || Mask(63) != full>>1 || Mask(64) != full || Mask(65) != full {
		t.Error("Mask at its edges")
	}
}

// P1.2: the bit j of Cut is the bit at + j of the word, if j is below n and there is such a bit.
func TestCut(t *testing.T) {
	for _, w := range []uint64{0, full, 22, 1, 1 << 63, 1<<63 | 1, 0x0123456789abcdef, 0xaaaaaaaaaaaaaaaa} {
		for _, at := range places() {
			for _, n := range places() {
				if got, want := Cut(w, at, n), plainCut(w, at, n); got != want {
					t.Fatalf("Cut(%#x, %d, %d) = %#x, want %#x", w, at, n, got, want)
				}
			}
		}
	}
}

// plainCut builds the cut from the word's ones, without going beyond an int's ends.
func plainCut(w uint64, at, n int) uint64 {
	if at < -64 || at > 64 {
		return 0
	}
	var c uint64
	for j := 0; j < 64 && j < n; j++ {
		if bit(w, at+j) {
			c += 1 << j
		}
	}
	return c
}

// P1.2: the edges of Cut, told by hand.
func TestCutEdges(t *testing.T) {
	for _, c := range []struct {
		w     uint64
		at, n int
		want  uint64
	}{
		{full, 0, 64, full}, {full, 0, 65, full}, {full, 0, math.MaxInt, full},
		{full, 0, 0, 0}, {full, 0, -1, 0}, {full, 5, math.MinInt, 0}, {full, 0, 1, 1},
		{full, 63, 1, 1}, {full, 63, 64, 1}, {full, 64, 1, 0}, {full, 65, 64, 0}, {full, math.MaxInt, math.MaxInt, 0},
		{1, -3, 8, 8}, {1, -3, 3, 0}, {1, -3, 4, 8}, {full, -1, 64, full - 1}, {full, -1, 1, 0},
		{1, -63, 64, 1 << 63}, {1, -63, 63, 0}, {full, -64, 64, 0}, {full, -64, 65, 0}, {full, -64, math.MaxInt, 0},
		{full, math.MinInt, 64, 0}, {full, math.MinInt, math.MaxInt, 0}, {full, math.MinInt + 64, math.MaxInt, 0},
		{0, 0, 64, 0},
	} {
		if got := Cut(c.w, c.at, c.n); got != c.want {
			t.Errorf("Cut(%#x, %d, %d) = %#x, want %#x", c.w, c.at, c.n, got, c.want)
		}
	}
}

// P1.2: Width is the least n with v below 2^n.
func TestWidth(t *testing.T) {
	for _, c := range []struct {
		v    uint64
		want int
	}{{0, 0}, {1, 1}, {2, 2}, {3, 2}, {4, 3}, {1<<32 - 1, 32}, {1 << 32, 33}, {1<<63 - 1, 63}, {1 << 63, 64}, {full, 64}} {
		if got := Width(c.v); got != c.want {
			t.Errorf("Width(%d) = %d, want %d", c.v, got, c.want)
		}
	}
	for _, v := range words() {
		want := 0
		for rest := v; rest > 0; rest /= 2 {
			want++
		}
		if got := Width(v); got != want {
			t.Errorf("Width(%#x) = %d, want %d", v, got, want)
		}
	}
}

// P1.3: Pairs tells each one with how many are below it, the lowest first, and no others.
func TestPairs(t *testing.T) {
	for _, w := range words() {
		ones, got := onesOf(w), gone(w)
		if len(got) != len(ones) {
			t.Errorf("Pairs(%#x) told %d ones, want %d", w, len(got), len(ones))
			continue
		}
		for k, i := range ones {
			if got[k] != [2]int{k, i} {
				t.Errorf("Pairs(%#x) told %v at %d, want [%d %d]", w, got[k], k, k, i)
			}
		}
	}
}

// P1.3: with nothing to tell there is a function, and it tells nothing.
func TestPairsOfNought(t *testing.T) {
	if Pairs(0) == nil {
		t.Fatal("Pairs(0) is nil")
	}
	for k, i := range Pairs(0) {
		t.Errorf("Pairs(0) told %d, %d", k, i)
	}
}

// P1.3: a going over that is ended early tells no more, wherever it is ended, and the same
// function, gone over again, begins anew and tells all.
func TestPairsEndedEarly(t *testing.T) {
	for _, w := range []uint64{1, 22, 1 << 63, 0xaaaaaaaaaaaaaaaa, full} {
		all := Pairs(w)
		ones := onesOf(w)
		for end := range ones {
			told := 0
			all(func(k, i int) bool {
				if k != told || i != ones[k] {
					t.Errorf("Pairs(%#x) told %d, %d, want %d, %d", w, k, i, told, ones[told])
				}
				told++
				return k < end
			})
			if told != end+1 {
				t.Errorf("Pairs(%#x), ended at %d, told %d ones", w, end, told)
			}
		}
		for range 2 {
			told := 0
			for k, i := range all {
				if k != told || i != ones[k] {
					t.Errorf("Pairs(%#x), gone over again, told %d, %d", w, k, i)
				}
				told++
			}
			if told != len(ones) {
				t.Errorf("Pairs(%#x), gone over again, told %d ones, want %d", w, told, len(ones))
			}
		}
	}
}

// P1.3: a going over within another one of the same function does not disturb it.
func TestPairsWithinPairs(t *testing.T) {
	all := Pairs(22)
	var got []int
	for _, i := range all {
		for _, j := range all {
			got = append(got, i*10+j)
		}
	}
	want := []int{11, 12, 14, 21, 22, 24, 41, 42, 44}
	if len(got) != len(want) {
		t.Fatalf("told %v, want %v", got, want)
	}
	for i := range want {
		if got[i] != want[i] {
			t.Fatalf("told %v, want %v", got, want)
		}
	}
}

// P1.4: Select of Rank is the number again, where the bit is one; Rank of Select is k.
func TestSelectAndRank(t *testing.T) {
	for _, w := range words() {
		for i := range 64 {
			if bit(w, i) && Select(w, Rank(w, i)) != i {
				t.Errorf("Select(%#x, Rank %d) = %d, want %d", w, i, Select(w, Rank(w, i)), i)
			}
		}
		for k := range bits.OnesCount64(w) {
			if got := Rank(w, Select(w, k)); got != k {
				t.Errorf("Rank(%#x, Select %d) = %d, want %d", w, k, got, k)
			}
		}
	}
}
