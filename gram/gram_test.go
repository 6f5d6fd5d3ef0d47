package gram_test

import (
	"fmt"
	"locution/api"
	"locution/gram"
	"math/big"
	"slices"
	"strings"
	"testing"
)

// least and most are the ends of what an int may be.
const (
	least = -1 << 63
	most  = 1<<63 - 1
)

// mixed is a number from 0 to below bound that looks as if by chance; of each i
// it is the same each time.
func mixed(i, bound int) int {
	x := (uint64(i) + 1) * 0x9e3779b97f4a7c15
	x ^= x >> 31
	x *= 0xbf58476d1ce4e5b9
	x ^= x >> 29
	return int(x % uint64(bound))
}

// chance is k numbers below bound that look as if by chance.
func chance(seed, k, bound int) []int {
	l := make([]int, k)
	for i := range l {
		l[i] = mixed(seed*1_000_003+i, bound)
	}
	return l
}

// everyGram is all n-grams of up to longest of these numbers.
func everyGram(longest int, numbers ...int) [][]int {
	all := [][]int{nil}
	for from := 0; len(all[from]) < longest; from++ {
		for _, w := range numbers {
			all = append(all, append(slices.Clone(all[from]), w))
		}
	}
	return all
}

// turned is g, the last number first.
func turned(g []int) []int {
	var t []int
	for _, w := range g {
		t = append([]int{w}, t...)
	}
	return t
}

// plainAhead tells whether a stands ahead of b: the first places at which they
// are alike are taken away, one by one.
func plainAhead(a, b []int) bool {
	if len(a) == 0 || len(b) == 0 {
		return len(a) < len(b)
	}
	if a[0] != b[0] {
		return a[0] < b[0]
	}
	return plainAhead(a[1:], b[1:])
}

// plainCompare is -1, 0 or 1, as a stands ahead, is the same, or stands behind.
func plainCompare(a, b []int) int {
	switch {
	case plainAhead(a, b):
		return -1
	case plainAhead(b, a):
		return 1
	}
	return 0
}

// plainSum is the n-grams of l, each put in its place among those so far.
func plainSum(l []api.Count) []api.Count {
	var sums []api.Count
	for _, c := range l {
		at := 0
		for at < len(sums) && plainAhead(sums[at].G, c.G) {
			at++
		}
		if at < len(sums) && slices.Equal(sums[at].G, c.G) {
			sums[at].N = wrapped(sums[at].N, c.N)
		} else {
			sums = slices.Insert(sums, at, api.Count{G: slices.Clone(c.G), N: c.N})
		}
	}
	return sums
}

// wrapped is two numbers together, reckoned with more bits than an int has, and
// then brought back into its range.
func wrapped(a, b int) int {
	round := new(big.Int).Lsh(big.NewInt(1), 64)
	sum := new(big.Int).Add(big.NewInt(int64(a)), big.NewInt(int64(b)))
	for !sum.IsInt64() {
		if sum.Sign() < 0 {
			sum.Add(sum, round)
		} else {
			sum.Sub(sum, round)
		}
	}
	return int(sum.Int64())
}

// same tells whether two lists have the same n-grams with the same numbers.
func same(l, m []api.Count) bool {
	return slices.EqualFunc(l, m, func(a, b api.Count) bool { return a.N == b.N && slices.Equal(a.G, b.G) })
}

// copied is a copy of l, down to its n-grams.
func copied(l []api.Count) []api.Count {
	var c []api.Count
	for _, x := range l {
		c = append(c, api.Count{G: slices.Clone(x.G), N: x.N})
	}
	return c
}

// counts is a list of these n-grams, each with its place as its number.
func counts(grams ...[]int) []api.Count {
	var l []api.Count
	for i, g := range grams {
		l = append(l, api.Count{G: g, N: i})
	}
	return l
}

// brief is how v is printed, cut where it is long.
func brief(v any) string {
	s := fmt.Sprint(v)
	return s[:min(len(s), 200)]
}

// compare fails, if Compare tells something else, or does not turn round with
// its arguments.
func compare(t *testing.T, a, b []int, want int) {
	t.Helper()
	if got := gram.Compare(a, b); got != want {
		t.Fatalf("Compare of %s and %s: %d, not %d", brief(a), brief(b), got, want)
	}
	if got := gram.Compare(b, a); got != -want {
		t.Fatalf("Compare of %s and %s: %d, not %d", brief(b), brief(a), got, -want)
	}
}

// behind fails, if Behind tells something else, or does not turn round with its
// arguments.
func behind(t *testing.T, a, b []int, want int) {
	t.Helper()
	if got := gram.Behind(a, b); got != want {
		t.Fatalf("Behind of %s and %s: %d, not %d", brief(a), brief(b), got, want)
	}
	if got := gram.Behind(b, a); got != -want {
		t.Fatalf("Behind of %s and %s: %d, not %d", brief(b), brief(a), got, -want)
	}
}

// key fails, if Key tells something else, or Parse does not tell g of it.
func key(t *testing.T, g []int, want string) {
	t.Helper()
	got, e := gram.Key(g)
	if got != want || e != api.OK {
		t.Fatalf("Key of %s: %.200q, error %d, not %.200q", brief(g), got, e, want)
	}
	if back, e := gram.Parse(got); !slices.Equal(back, g) || e != api.OK {
		t.Fatalf("Parse of %.200q: %s, error %d, not %s", got, brief(back), e, brief(g))
	}
}

// noKey fails, if there is a key of g.
func noKey(t *testing.T, g []int) {
	t.Helper()
	if got, e := gram.Key(g); got != "" || e != api.ErrRange {
		t.Fatalf("Key of %s: %.200q, error %d, though there is none", brief(g), got, e)
	}
}

// parse fails, if Parse tells something else, or Key does not tell the text of it.
func parse(t *testing.T, text string, want ...int) {
	t.Helper()
	got, e := gram.Parse(text)
	if !slices.Equal(got, want) || e != api.OK {
		t.Fatalf("Parse of %.200q: %s, error %d, not %s", text, brief(got), e, brief(want))
	}
	if back, e := gram.Key(got); back != text || e != api.OK {
		t.Fatalf("Key of %s: %.200q, error %d, not %.200q", brief(got), back, e, text)
	}
}

// noParse fails, if text is a key.
func noParse(t *testing.T, text string) {
	t.Helper()
	if got, e := gram.Parse(text); len(got) != 0 || e != api.ErrForm {
		t.Fatalf("Parse of %.200q: %s, error %d, though it is no key", text, brief(got), e)
	}
}

// rises fails, if Rises tells something else.
func rises(t *testing.T, want bool, grams ...[]int) {
	t.Helper()
	if got := gram.Rises(counts(grams...)); got != want {
		t.Fatalf("Rises of %s: %v", brief(grams), got)
	}
}

// sum fails, if Sum tells something else, or a list that does not rise, or of
// which Sum tells another one, or if it changes l.
func sum(t *testing.T, l []api.Count, want ...api.Count) {
	t.Helper()
	was := copied(l)
	got := gram.Sum(l)
	if !same(got, want) {
		t.Fatalf("Sum of %s: %s, not %s", brief(l), brief(got), brief(want))
	}
	if !same(l, was) {
		t.Fatalf("Sum has changed the list: %s, not %s", brief(l), brief(was))
	}
	if !gram.Rises(got) {
		t.Fatalf("Sum of %s does not rise: %s", brief(l), brief(got))
	}
	if again := gram.Sum(got); !same(again, got) {
		t.Fatalf("Sum of %s: %s, though it was a sum already", brief(got), brief(again))
	}
}

// find fails, if Find tells something else.
func find(t *testing.T, l []api.Count, g []int, want int) {
	t.Helper()
	if got := gram.Find(l, g); got != want {
		t.Fatalf("Find of %s in %s: %d, not %d", brief(g), brief(l), got, want)
	}
}

// The chapter's examples.
func TestExample(t *testing.T) {
	compare(t, []int{1, 2}, []int{1, 3}, -1)
	behind(t, []int{2, 1}, []int{1, 2}, -1)
	key(t, []int{258}, "\x00\x01\x02")
	l := []api.Count{{G: []int{2}, N: 1}, {G: []int{1}, N: 4}, {G: []int{2}, N: 5}}
	sum(t, l, api.Count{G: []int{1}, N: 4}, api.Count{G: []int{2}, N: 6})
	if gram.Wide != 3 {
		t.Errorf("Wide is %d", gram.Wide)
	}
}

// P18.1: Compare of n-grams by hand.
func TestCompare(t *testing.T) {
	compare(t, nil, nil, 0)
	compare(t, nil, []int{}, 0)
	compare(t, nil, []int{0}, -1)
	compare(t, []int{}, []int{least}, -1)
	compare(t, []int{7}, []int{7}, 0)
	compare(t, []int{1, 2, 3}, []int{1, 2, 3}, 0)
	compare(t, []int{1, 9, 9}, []int{2, 0, 0}, -1)
	compare(t, []int{1, 2, 9}, []int{1, 3, 0}, -1)
	compare(t, []int{1, 2, 3}, []int{1, 2, 4}, -1)
	compare(t, []int{1, 2}, []int{1, 2, 0}, -1)
	compare(t, []int{1, 2}, []int{1, 2, least}, -1)
	compare(t, []int{2, 3}, []int{1, 2, 3}, 1)
	compare(t, []int{3}, []int{1, 2, 3}, 1)
	compare(t, []int{1}, []int{0, 5, 5, 5, 5, 5, 5, 5}, 1)
	compare(t, []int{2, 10}, []int{10, 2}, -1)
	compare(t, []int{255}, []int{256}, -1)
}

// P18.1: Behind of n-grams by hand.
func TestBehind(t *testing.T) {
	behind(t, nil, nil, 0)
	behind(t, nil, []int{}, 0)
	behind(t, nil, []int{0}, -1)
	behind(t, []int{}, []int{least}, -1)
	behind(t, []int{7}, []int{7}, 0)
	behind(t, []int{1, 2, 3}, []int{1, 2, 3}, 0)
	behind(t, []int{9, 9, 1}, []int{0, 0, 2}, -1)
	behind(t, []int{9, 2, 1}, []int{0, 3, 1}, -1)
	behind(t, []int{3, 2, 1}, []int{4, 2, 1}, -1)
	behind(t, []int{2, 1}, []int{0, 2, 1}, -1)
	behind(t, []int{2, 1}, []int{least, 2, 1}, -1)
	behind(t, []int{1, 2}, []int{1, 2, 3}, -1)
	behind(t, []int{1, 2}, []int{1, 2, 0}, 1)
	behind(t, []int{1}, []int{5, 5, 5, 5, 5, 5, 5, 0}, 1)
	behind(t, []int{5, 2}, []int{2}, 1)
	behind(t, []int{2, 10}, []int{10, 2}, 1)
}

// P18.1: numbers below 0, and the ends of what an int may be.
func TestCompareExtremes(t *testing.T) {
	up := []int{least, least + 1, -1 << 32, -256, -255, -1, 0, 1, 255, 256, 1 << 24, 1 << 32, most - 1, most}
	for i, v := range up {
		for k, w := range up {
			want := max(-1, min(i-k, 1))
			compare(t, []int{v}, []int{w}, want)
			compare(t, []int{4, v}, []int{4, w}, want)
			compare(t, []int{v, 4}, []int{w, 4}, want)
			behind(t, []int{v}, []int{w}, want)
			behind(t, []int{4, v}, []int{4, w}, want)
			behind(t, []int{v, 4}, []int{w, 4}, want)
		}
	}
}

// P18.1: Compare and Behind of all pairs of small n-grams, and through pairs.
func TestCompareEvery(t *testing.T) {
	all := everyGram(4, -1, 0, 2)
	for _, a := range all {
		for _, b := range all {
			compare(t, a, b, plainCompare(a, b))
			behind(t, a, b, plainCompare(turned(a), turned(b)))
			if same := slices.Equal(a, b); same != (gram.Compare(a, b) == 0) || same != (gram.Behind(a, b) == 0) {
				t.Fatalf("%v and %v are the same by one and not by the other", a, b)
			}
		}
	}
}

// P18.1: long n-grams that part at one place alone, or of which one ends there.
func TestCompareLong(t *testing.T) {
	for _, k := range []int{1, 2, 3, 8, 9, 63, 1000, 70000} {
		a := chance(k, k, 5)
		for _, at := range []int{0, k / 2, k - 1} {
			b := slices.Clone(a)
			compare(t, a, b, 0)
			behind(t, a, b, 0)
			b[at] += 100
			compare(t, a, b, -1)
			behind(t, a, b, -1)
			b[at] -= 200
			compare(t, a, b, 1)
			behind(t, a, b, 1)
			compare(t, a[:at], a, -1)
			behind(t, a[at+1:], a, -1)
		}
	}
}

// P18.1: Key of numbers by hand, there and back.
func TestKey(t *testing.T) {
	key(t, nil, "")
	key(t, []int{}, "")
	for w, want := range map[int]string{
		0:         "\x00\x00\x00",
		1:         "\x00\x00\x01",
		127:       "\x00\x00\x7f",
		128:       "\x00\x00\x80",
		255:       "\x00\x00\xff",
		256:       "\x00\x01\x00",
		258:       "\x00\x01\x02",
		65535:     "\x00\xff\xff",
		65536:     "\x01\x00\x00",
		0x123456:  "\x12\x34\x56",
		1<<23 - 1: "\x7f\xff\xff",
		1 << 23:   "\x80\x00\x00",
		1<<24 - 1: "\xff\xff\xff",
	} {
		key(t, []int{w}, want)
		key(t, []int{w, 7, 8}, want+"\x00\x00\x07\x00\x00\x08")
		key(t, []int{7, w, 8}, "\x00\x00\x07"+want+"\x00\x00\x08")
		key(t, []int{7, 8, w}, "\x00\x00\x07\x00\x00\x08"+want)
	}
	key(t, []int{258, 1<<24 - 1}, "\x00\x01\x02\xff\xff\xff")
	key(t, slices.Repeat([]int{97*65536 + 98*256 + 99}, 5000), strings.Repeat("abc", 5000))
}

// P18.1: numbers that no key has, at any place, one and several.
func TestKeyRange(t *testing.T) {
	for _, w := range []int{least, least + 1, -1 << 32, -1 << 24, -256, -1, 1 << 24, 1<<24 + 1, 1 << 25, 1 << 32, 1<<32 + 5, 1 << 40, 1 << 62, most - 1, most} {
		noKey(t, []int{w})
		noKey(t, []int{w, 1, 2})
		noKey(t, []int{1, w, 2})
		noKey(t, []int{1, 2, w})
		noKey(t, []int{w, w, w})
		noKey(t, append(chance(3, 5000, 1<<24), w))
		noKey(t, append([]int{w}, chance(4, 5000, 1<<24)...))
	}
	noKey(t, []int{-1, 1 << 24})
}

// P18.1: Parse of texts by hand, of any length, there and back.
func TestParse(t *testing.T) {
	parse(t, "")
	parse(t, "\x00\x00\x00", 0)
	parse(t, "\xff\xff\xff", 1<<24-1)
	parse(t, "\x00\x00\xff", 255)
	parse(t, "\x00\xff\x00", 255<<8)
	parse(t, "\xff\x00\x00", 255<<16)
	parse(t, "abc", 0x616263)
	parse(t, "\x00\x00\x00\x00\x00\x00", 0, 0)
	parse(t, "\x00\x00\x01\x00\x01\x00", 1, 256)
	parse(t, "\xff\xff\xff\x00\x00\x00", 1<<24-1, 0)
	parse(t, "größe++", 0x6772c3, 0xb6c39f, 0x652b2b)
	noParse(t, "größe")
	for n := range 40 {
		text := strings.Repeat("\x00\xffa", 20)[:n]
		if n%3 != 0 {
			noParse(t, text)
			continue
		}
		parse(t, text, slices.Repeat([]int{0x00ff61}, n/3)...)
	}
	for _, text := range []string{"a", "ab", "\x00", "\xff", "\x00\x00", "abcd", "abcde", "\x00\x00\x00\x00", strings.Repeat("\xff", 3001)} {
		noParse(t, text)
	}
}

// P18.1: keys of n-grams by chance, and n-grams of texts by chance.
func TestKeyThereAndBack(t *testing.T) {
	for seed := range 300 {
		g := chance(seed, seed%40, 1<<24)
		var want strings.Builder
		for _, w := range g {
			want.WriteByte(byte(w / 65536))
			want.WriteByte(byte(w / 256 % 256))
			want.WriteByte(byte(w % 256))
		}
		key(t, g, want.String())
		text := ""
		for _, b := range chance(seed+1000, 3*(seed%40), 256) {
			text += string([]byte{byte(b)})
		}
		back, _ := gram.Parse(text)
		parse(t, text, back...)
	}
	for w := 0; w < 1<<24; w += 997 {
		key(t, []int{w}, string([]byte{byte(w >> 16), byte(w >> 8), byte(w)}))
	}
}

// P18.1: the n-grams that are handed in are as they were, and what Parse told is
// the caller's own.
func TestKeyApart(t *testing.T) {
	room := []int{1, 2, 3, -1, 4}
	was := slices.Clone(room)
	gram.Compare(room[:3], room[2:])
	gram.Behind(room[:3], room[2:])
	gram.Key(room)
	if k, e := gram.Key(room[:3]); len(k) != 9 || e != api.OK {
		t.Errorf("Key looks behind the list's length: %q, error %d", k, e)
	}
	if !slices.Equal(room, was) {
		t.Errorf("a list is changed: %v", room)
	}
	g, _ := gram.Parse("abcdef")
	h, _ := gram.Parse("abcdef")
	clear(g)
	if !slices.Equal(h, []int{0x616263, 0x646566}) {
		t.Errorf("two answers share: %v", h)
	}
}

// P18.2: Rises of lists by hand.
func TestRises(t *testing.T) {
	rises(t, true)
	rises(t, true, nil)
	rises(t, true, []int{5, 5})
	rises(t, true, []int{1}, []int{2})
	rises(t, false, []int{2}, []int{1})
	rises(t, false, []int{2}, []int{2})
	rises(t, false, nil, []int{})
	rises(t, true, nil, []int{least})
	rises(t, false, []int{least}, nil)
	rises(t, true, []int{1}, []int{1, 0})
	rises(t, false, []int{1, 0}, []int{1})
	rises(t, true, []int{least}, []int{-1}, []int{0}, []int{most})
	rises(t, false, []int{most}, []int{least})
	rises(t, true, []int{1, 2}, []int{1, 2, 3}, []int{1, 3}, []int{2}, []int{2, 0})
	if !gram.Rises(nil) || !gram.Rises([]api.Count{}) {
		t.Error("an empty list does not rise")
	}
}

// P18.2: lists that rise but at one place, where they fall or stand still.
func TestRisesButOnce(t *testing.T) {
	for _, k := range []int{2, 3, 4, 7, 50} {
		var up [][]int
		for i := range k {
			up = append(up, []int{i / 3, i % 3})
		}
		rises(t, true, up...)
		for at := 1; at < k; at++ {
			still := slices.Clone(up)
			still[at] = up[at-1]
			rises(t, false, still...)
			fall := slices.Clone(up)
			fall[at-1], fall[at] = fall[at], fall[at-1]
			rises(t, false, fall...)
		}
	}
}

// P18.2: Rises of all triples of small n-grams, whatever their numbers N are.
func TestRisesEvery(t *testing.T) {
	all := everyGram(2, 0, 1)
	for _, a := range all {
		for _, b := range all {
			for i, c := range all {
				l := []api.Count{{G: a, N: -i}, {G: b, N: i}, {G: c, N: 0}}
				if want := plainAhead(a, b) && plainAhead(b, c); gram.Rises(l) != want {
					t.Fatalf("Rises of %v: %v", l, !want)
				}
			}
		}
	}
}

// P18.2: Sum of lists by hand.
func TestSum(t *testing.T) {
	a, b, c := []int{1}, []int{1, 0}, []int{2}
	sum(t, nil)
	sum(t, []api.Count{})
	sum(t, []api.Count{{G: a, N: 3}}, api.Count{G: a, N: 3})
	sum(t, []api.Count{{G: a, N: 0}}, api.Count{G: a, N: 0})
	sum(t, []api.Count{{G: a, N: -7}}, api.Count{G: a, N: -7})
	sum(t, []api.Count{{G: a, N: 1}, {G: a, N: 1}}, api.Count{G: a, N: 2})
	sum(t, []api.Count{{G: a, N: 5}, {G: a, N: -5}}, api.Count{G: a, N: 0})
	sum(t, []api.Count{{G: a, N: 0}, {G: c, N: 0}, {G: a, N: 0}}, api.Count{G: a}, api.Count{G: c})
	sum(t, []api.Count{{G: c, N: 1}, {G: b, N: 2}, {G: a, N: 3}}, api.Count{G: a, N: 3}, api.Count{G: b, N: 2}, api.Count{G: c, N: 1})
	sum(t, []api.Count{{G: c, N: 1}, {G: a, N: 2}, {G: c, N: 3}, {G: a, N: 4}, {G: c, N: 5}}, api.Count{G: a, N: 6}, api.Count{G: c, N: 9})
	sum(t, []api.Count{{G: b, N: 1}, {G: nil, N: 2}, {G: []int{}, N: 3}, {G: b, N: 4}}, api.Count{N: 5}, api.Count{G: b, N: 5})
	sum(t, []api.Count{{N: 2}}, api.Count{N: 2})
	sum(t, []api.Count{{N: 2}, {G: []int{}, N: -3}}, api.Count{N: -1})
}

// P18.2: the n-grams that Sum tells may have any numbers, and need not have keys.
func TestSumAnyNumbers(t *testing.T) {
	sum(t, []api.Count{
		{G: []int{most}, N: 1}, {G: []int{1 << 24}, N: 2}, {G: []int{-1}, N: 3}, {G: []int{least, 5}, N: 4}, {G: []int{least}, N: 5}, {G: []int{most}, N: 6},
	},
		api.Count{G: []int{least}, N: 5}, api.Count{G: []int{least, 5}, N: 4}, api.Count{G: []int{-1}, N: 3}, api.Count{G: []int{1 << 24}, N: 2}, api.Count{G: []int{most}, N: 7})
}

// P18.2: numbers N that leave the range of an int together come back into it at
// its other end.
func TestSumWraps(t *testing.T) {
	g := []int{4, 4}
	for _, c := range []struct {
		numbers []int
		want    int
	}{
		{[]int{most, 1}, least},
		{[]int{1, most}, least},
		{[]int{most, most}, -2},
		{[]int{least, least}, 0},
		{[]int{least, -1}, most},
		{[]int{most, least}, -1},
		{[]int{most, most, most, most}, -4},
		{[]int{most, 1, least}, 0},
		{[]int{1 << 62, 1 << 62, 1 << 62, 1 << 62}, 0},
		{[]int{1 << 62, 1 << 62, 1 << 62, 1 << 62, 9}, 9},
	} {
		var l []api.Count
		for _, n := range c.numbers {
			l = append(l, api.Count{G: g, N: n})
		}
		sum(t, l, api.Count{G: g, N: c.want})
		for i := range l {
			l = slices.Insert(l, 2*i, api.Count{G: []int{i}, N: 1})
		}
		if got := gram.Sum(l); got[gram.Find(got, g)].N != c.want {
			t.Errorf("Sum of %v: %v, not %d of %v", l, got, c.want, g)
		}
	}
}

// P18.2: one n-gram that stands in a list often, next to each other and far apart.
func TestSumOften(t *testing.T) {
	for _, k := range []int{1, 2, 3, 11, 12, 13, 100, 5000} {
		g := []int{3, 1}
		row := slices.Repeat([]api.Count{{G: g, N: 2}}, k)
		sum(t, row, api.Count{G: g, N: 2 * k})
		var far, want []api.Count
		for i := range k {
			other := api.Count{G: []int{2 + 2*(i%2), i}, N: -1}
			far = append(far, api.Count{G: g, N: 2}, other)
		}
		want = append(slices.Clone(far[:0]), plainSum(far)...)
		sum(t, far, want...)
		if i := gram.Find(want, g); i < 0 || want[i].N != 2*k {
			t.Fatalf("%d times 2 of %v: %v", k, g, want)
		}
	}
}

// P18.2: Sum of all lists of up to five of a few n-grams.
func TestSumEvery(t *testing.T) {
	few := []api.Count{{N: 1}, {G: []int{1}, N: 10}, {G: []int{1, 0}, N: -3}, {G: []int{0}, N: 100}}
	var more func(l []api.Count)
	more = func(l []api.Count) {
		sum(t, l, plainSum(l)...)
		for _, c := range few {
			if len(l) < 5 {
				more(append(slices.Clone(l), c))
			}
		}
	}
	more(nil)
}

// P18.2, P18.3: Sum of lists by chance, of n-grams of unlike lengths.
func TestSumByChance(t *testing.T) {
	for seed := range 200 {
		var l []api.Count
		for i := range seed * 2 {
			k := mixed(seed*7919+i, 4)
			l = append(l, api.Count{G: chance(seed*1009+i, k, 1+seed%7), N: mixed(seed+i, 1000) - 500})
		}
		sum(t, l, plainSum(l)...)
		slices.Reverse(l)
		sum(t, l, plainSum(l)...)
	}
}

// P18.2: a long list, whose sums are held against numbers by the n-grams' texts.
func TestSumLong(t *testing.T) {
	var l []api.Count
	numbers := map[string]int{}
	for i := range 100000 {
		g := chance(i, 1+mixed(i, 3), 40)
		l = append(l, api.Count{G: g, N: i})
		numbers[fmt.Sprint(g)] += i
	}
	sums := gram.Sum(l)
	if len(sums) != len(numbers) || !gram.Rises(sums) {
		t.Fatalf("%d n-grams, not %d, or they do not rise", len(sums), len(numbers))
	}
	for i, c := range sums {
		if c.N != numbers[fmt.Sprint(c.G)] {
			t.Fatalf("%v: %d, not %d", c.G, c.N, numbers[fmt.Sprint(c.G)])
		}
		find(t, sums, c.G, i)
	}
}

// P18.2: a list that is handed in, its n-grams, and what lies behind its length
// stay as they were, and a change of it later changes no answer.
func TestSumApart(t *testing.T) {
	room := []api.Count{{G: []int{2, 9}[:1], N: 1}, {G: []int{1, 9}[:1], N: 4}, {G: []int{2, 9}[:1], N: 5}, {G: []int{0}, N: 7}, {G: []int{3}, N: 8}}
	was := copied(room)
	l := gram.Sum(room[:3])
	want := []api.Count{{G: []int{1}, N: 4}, {G: []int{2}, N: 6}}
	if !same(l, want) || !same(room, was) {
		t.Fatalf("%v of %v", l, room)
	}
	for _, c := range l {
		_ = append(c.G, 77)
	}
	_ = append(l, api.Count{G: []int{5}, N: 5})
	for i, c := range room {
		if i < 3 && c.G[:2][1] != 9 {
			t.Errorf("what lies behind the n-gram %d is written", i)
		}
	}
	room[1].G[0], room[0].G[0], room[2].N = 8, 8, 8
	if !same(l, want) {
		t.Errorf("the answer hangs on the list: %v", l)
	}
	if !same(room[3:], was[3:]) {
		t.Errorf("what lies behind the list is written: %v", room)
	}
}

// P18.2: what Sum told is the caller's own, down to its n-grams, also of a list
// that rises already.
func TestSumOwn(t *testing.T) {
	room := []api.Count{{G: []int{1}, N: 4}, {G: []int{1, 2}, N: 5}, {G: []int{2}, N: 6}}
	was := copied(room)
	l, m := gram.Sum(room), gram.Sum(room)
	for i := range l {
		for k := range l[i].G {
			l[i].G[k] = 99
		}
		l[i].N = 99
		if !same(m, was) || !same(room, was) || !same(l[i+1:], was[i+1:]) {
			t.Fatalf("answers share: %v, %v, %v", l, m, room)
		}
	}
	one := []int{6, 7}
	alike := []api.Count{{G: one[:1], N: 1}, {G: one, N: 1}, {G: one[:1], N: 1}}
	s := gram.Sum(alike)
	s[0].G[0] = 5
	s[1].G[1] = 5
	if !same(s, []api.Count{{G: []int{5}, N: 2}, {G: []int{6, 5}, N: 1}}) || !slices.Equal(one, []int{6, 7}) {
		t.Errorf("n-grams that shared still do: %v, %v", s, one)
	}
}

// P18.2: Find in lists by hand.
func TestFind(t *testing.T) {
	find(t, nil, nil, -1)
	find(t, nil, []int{1}, -1)
	find(t, []api.Count{}, []int{}, -1)
	one := counts([]int{4, 2})
	find(t, one, []int{4, 2}, 0)
	for _, g := range [][]int{nil, {4}, {4, 1}, {4, 3}, {4, 2, 0}, {4, 2, least}, {3}, {5}, {2}, {2, 4}, {least}, {most}} {
		find(t, one, g, -1)
	}
	l := counts([]int{}, []int{least}, []int{1}, []int{1, 2}, []int{1, 2, 3}, []int{1, 4}, []int{3}, []int{most, most})
	for i, c := range l {
		find(t, l, c.G, i)
		find(t, l[:i], c.G, -1)
		find(t, l[i+1:], c.G, -1)
		find(t, l[i:], c.G, 0)
		find(t, l[:i+1], c.G, i)
	}
	find(t, l, nil, 0)
	for _, g := range [][]int{{least, least}, {0}, {1, 1}, {1, 2, 2}, {1, 2, 3, 0}, {1, 2, 4}, {1, 3}, {2}, {2, 3}, {3, 0}, {most}, {most, 0}, {most, most, least}} {
		find(t, l, g, -1)
	}
}

// P18.2: Find of what is there and what is not, in lists of each length.
func TestFindEvery(t *testing.T) {
	all := everyGram(4, 0, 1, 2)
	for k := range 60 {
		var grams []api.Count
		for i := range k {
			grams = append(grams, api.Count{G: all[mixed(k*77+i, len(all))], N: -i})
		}
		l := gram.Sum(grams)
		for _, g := range all {
			want := slices.IndexFunc(l, func(c api.Count) bool { return slices.Equal(c.G, g) })
			find(t, l, g, want)
		}
	}
}

// P18.2: Find and Rises change nothing, and of a list that does not rise Find ends
// with a place of it or with -1.
func TestFindApart(t *testing.T) {
	room := counts([]int{1}, []int{2}, []int{3}, []int{4})
	was := copied(room)
	g := []int{2, 3, 4}
	find(t, room[:3], g[:1], 1)
	find(t, room[:3], g[2:], -1)
	if !gram.Rises(room[:3]) || !same(room, was) || !slices.Equal(g, []int{2, 3, 4}) {
		t.Errorf("%v and %v are changed", room, g)
	}
	mess := counts([]int{5}, nil, []int{most}, []int{5}, []int{least}, []int{1, 1})
	for _, g := range everyGram(2, least, 1, 5, most) {
		if i := gram.Find(mess, g); i < -1 || i >= len(mess) {
			t.Errorf("Find of %v: %d", g, i)
		}
	}
}

// P18.3: keys of n-grams of one length stand, as texts, as these do.
func TestKeysStand(t *testing.T) {
	numbers := []int{0, 1, 2, 127, 128, 255, 256, 257, 258, 511, 512, 65535, 65536, 65537, 1 << 23, 1<<24 - 256, 1<<24 - 1}
	for _, longest := range []int{1, 2} {
		stand(t, longest, everyGram(longest, numbers...))
	}
	stand(t, 3, everyGram(3, 0, 255, 256, 1<<24-1))
	for k := range 9 {
		var grams [][]int
		for i := range 100 {
			grams = append(grams, chance(k*1000+i, k, []int{2, 300, 1 << 24}[i%3]))
		}
		stand(t, k, grams)
	}
}

// stand fails, if keys of those n-grams that have k numbers do not stand as these.
func stand(t *testing.T, k int, grams [][]int) {
	t.Helper()
	for _, a := range grams {
		for _, b := range grams {
			if len(a) != k || len(b) != k {
				continue
			}
			ka, ea := gram.Key(a)
			kb, eb := gram.Key(b)
			if ea != api.OK || eb != api.OK || strings.Compare(ka, kb) != gram.Compare(a, b) {
				t.Fatalf("%v and %v stand otherwise than their keys %q and %q", a, b, ka, kb)
			}
		}
	}
}

// P18.3: what Sum tells is the same, told again, and for each list that has the
// same n-grams in another order.
func TestSumOfSum(t *testing.T) {
	for seed := range 50 {
		var l []api.Count
		for i := range 60 {
			l = append(l, api.Count{G: chance(seed*100+i, i%3, 4), N: mixed(i, 50)})
		}
		once := gram.Sum(l)
		twice := gram.Sum(once)
		if !same(once, twice) || !same(gram.Sum(twice), once) {
			t.Fatalf("Sum of %v is another one", once)
		}
		cut := mixed(seed, len(l))
		if other := gram.Sum(append(gram.Sum(l[cut:]), gram.Sum(l[:cut])...)); !same(other, once) {
			t.Fatalf("%v of parts, %v of all", other, once)
		}
	}
}
