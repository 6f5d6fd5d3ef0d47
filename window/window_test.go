package window_test

import (
	"iter"
	"locution/token"
	"locution/vocab"
	"locution/window"
	"slices"
	"strings"
	"testing"
)

// least and most are the ends of what an int may be.
const (
	least = -1 << 63
	most  = 1<<63 - 1
)

// gram is an n-gram with its place.
type gram struct {
	i int
	g []int
}

// sameGrams tells whether two lists have the same n-grams at the same places.
func sameGrams(l, m []gram) bool {
	return slices.EqualFunc(l, m, func(a, b gram) bool { return a.i == b.i && slices.Equal(a.g, b.g) })
}

// sameLists tells whether two lists have the same lists.
func sameLists(l, m [][]int) bool { return slices.EqualFunc(l, m, slices.Equal) }

// copied is a copy of a list of lists, down to its lists.
func copied(l [][]int) [][]int {
	var c [][]int
	for _, p := range l {
		c = append(c, slices.Clone(p))
	}
	return c
}

// plainGrams is the n-grams of p, put together number by number behind each
// place from which on there are enough of them.
func plainGrams(p []int, n int) []gram {
	var l []gram
	for i := range p {
		var g []int
		for k := i; k < len(p) && len(g) < n; k++ {
			g = append(g, p[k])
		}
		if n > 0 && len(g) == n {
			l = append(l, gram{i, g})
		}
	}
	return l
}

// plainEach is the n-grams of each list of l.
func plainEach(l [][]int, n int) [][]int {
	var all [][]int
	for _, p := range l {
		for _, g := range plainGrams(p, n) {
			all = append(all, g.g)
		}
	}
	return all
}

// plainCount tells how often g is among the n-grams of l.
func plainCount(l [][]int, g []int) int {
	count := 0
	for _, h := range plainEach(l, len(g)) {
		if slices.Equal(h, g) {
			count++
		}
	}
	return count
}

// plainAhead is the numbers of p whose places are below i, and not below i by more
// than n.
func plainAhead(p []int, i, n int) []int {
	var l []int
	if i > len(p) {
		return nil
	}
	for k, w := range p {
		if k < i && n > 0 && i-k <= n {
			l = append(l, w)
		}
	}
	return l
}

// toldGrams is what a going over with places tells.
func toldGrams(s iter.Seq2[int, []int]) []gram {
	var l []gram
	for i, g := range s {
		l = append(l, gram{i, g})
	}
	return l
}

// grams fails, if Grams tells something else.
func grams(t *testing.T, p []int, n int, want ...gram) {
	t.Helper()
	s := window.Grams(p, n)
	if s == nil {
		t.Fatalf("Grams of %.200v, %d: nil", p, n)
	}
	if got := toldGrams(s); !sameGrams(got, want) {
		t.Fatalf("Grams of %.200v, %d: %.200v, not %.200v", p, n, got, want)
	}
}

// each fails, if Each tells something else.
func each(t *testing.T, l [][]int, n int, want ...[]int) {
	t.Helper()
	s := window.Each(l, n)
	if s == nil {
		t.Fatalf("Each of %.200v, %d: nil", l, n)
	}
	if got := slices.Collect(s); !sameLists(got, want) {
		t.Fatalf("Each of %.200v, %d: %.200v, not %.200v", l, n, got, want)
	}
}

// count fails, if Count tells something else.
func count(t *testing.T, l [][]int, g []int, want int) {
	t.Helper()
	if got := window.Count(l, g); got != want {
		t.Fatalf("Count of %.200v in %.200v: %d, not %d", g, l, got, want)
	}
}

// ahead fails, if Ahead tells something else.
func ahead(t *testing.T, p []int, i, n int, want ...int) {
	t.Helper()
	if got := window.Ahead(p, i, n); !slices.Equal(got, want) {
		t.Fatalf("Ahead of %.200v, %d, %d: %v, not %v", p, i, n, got, want)
	}
}

// pad fails, if Pad tells something else.
func pad(t *testing.T, v *vocab.Vocab, words []string, want ...int) {
	t.Helper()
	if got := window.Pad(v, words); !slices.Equal(got, want) {
		t.Fatalf("Pad of %.200q: %.200v, not %.200v", words, got, want)
	}
}

// all fails, if All tells something else.
func all(t *testing.T, v *vocab.Vocab, text string, want ...[]int) {
	t.Helper()
	if got := window.All(v, text); !sameLists(got, want) {
		t.Fatalf("All of %.60q: %.200v, not %.200v", text, got, want)
	}
}

// of is the vocabulary of the marks and these words behind them, from 3 on.
func of(t *testing.T, words ...string) *vocab.Vocab {
	t.Helper()
	v, e := vocab.Of(append([]string{"<unk>", "<s>", "</s>"}, words...))
	if e != 0 {
		t.Fatalf("vocab.Of %q: error %d", words, e)
	}
	return v
}

// mixed is a number from 0 to below bound that looks as if by chance; of each i
// it is the same each time.
func mixed(i, bound int) int {
	x := (uint64(i) + 1) * 0x9e3779b97f4a7c15
	x ^= x >> 31
	x *= 0xbf58476d1ce4e5b9
	x ^= x >> 29
	return int(x % uint64(bound))
}

// chance is k numbers below bound that look as if by chance.
func chance(seed, k, bound int) []int {
	l := make([]int, k)
	for i := range l {
		l[i] = mixed(seed*1_000_003+i, bound)
	}
	return l
}

// rising is k numbers, unlike each other.
func rising(k int) []int {
	l := make([]int, k)
	for i := range l {
		l[i] = 10 + 3*i
	}
	return l
}

// everyList hands over all lists of up to longest numbers below bound.
func everyList(longest, bound int, look func([]int)) {
	var more func(l []int)
	more = func(l []int) {
		look(l)
		for w := range bound {
			if len(l) < longest {
				more(append(slices.Clone(l), w))
			}
		}
	}
	more(nil)
}

// someLists are lists of 0 to some tens of numbers, unlike ones, alike ones and
// such as are there again and again.
func someLists() [][]int {
	l := [][]int{nil, {}, {least}, {-1, 0, most, least}}
	for k := range 40 {
		l = append(l, rising(k), make([]int, k), chance(k, k, 2), chance(k, k, 5))
	}
	return append(l, rising(300), chance(7, 300, 3))
}

// spans is how many numbers an n-gram may be asked to have, of a list of k.
func spans(k int) []int {
	l := []int{least, least + 1, -1 << 32, -k - 1, -k, -2, -1}
	for n := range min(k, 50) + 4 {
		l = append(l, n)
	}
	return append(l, k-1, k, k+1, k+2, 2*k+10, 1<<32, most-k, most-1, most)
}

// The chapter's example.
func TestExample(t *testing.T) {
	p := window.Pad(of(t, "a", "b"), []string{"a", "b"})
	if !slices.Equal(p, []int{1, 3, 4, 2}) {
		t.Fatalf("Pad of a b: %v", p)
	}
	grams(t, p, 2, gram{0, []int{1, 3}}, gram{1, []int{3, 4}}, gram{2, []int{4, 2}})
	ahead(t, p, 2, 5, 1, 3)
}

// P16.1: words that are there, once, several times, and in any order.
func TestPad(t *testing.T) {
	v := of(t, "a", "b", "größe")
	pad(t, v, nil, 1, 2)
	pad(t, v, []string{}, 1, 2)
	pad(t, v, []string{"a"}, 1, 3, 2)
	pad(t, v, []string{"b", "a"}, 1, 4, 3, 2)
	pad(t, v, []string{"größe", "a", "a", "b", "a"}, 1, 5, 3, 3, 4, 3, 2)
	many := make([]string, 5000)
	want := []int{1}
	for i := range many {
		id := mixed(i, 4)
		many[i] = []string{"zz", "a", "b", "größe"}[id]
		if id > 0 {
			id += 2
		}
		want = append(want, id)
	}
	pad(t, v, many, append(want, 2)...)
}

// P16.1: words that the vocabulary does not have are <unk>, and those it has are
// their numbers, the marks among them.
func TestPadUnknown(t *testing.T) {
	v := of(t, "a", "b")
	pad(t, v, []string{"zz"}, 1, 0, 2)
	pad(t, v, []string{"a", "zz", "b", "A", ""}, 1, 3, 0, 4, 0, 0, 2)
	pad(t, v, []string{"a b", "a ", "\n", strings.Repeat("x", 256), strings.Repeat("a", 1<<16)}, 1, 0, 0, 0, 0, 0, 2)
	pad(t, v, []string{"<unk>", "<s>", "a", "</s>"}, 1, 0, 1, 3, 2, 2)
	pad(t, vocab.New(), []string{"a", "b", "<unk>"}, 1, 0, 0, 0, 2)
	if v.Len() != 5 || v.Has("zz") {
		t.Errorf("words have come: %q", v.Words())
	}
}

// P16.1: of a nil vocabulary no word is there.
func TestPadNil(t *testing.T) {
	pad(t, nil, nil, 1, 2)
	pad(t, nil, []string{"a"}, 1, 0, 2)
	pad(t, nil, []string{"a", "<s>", "</s>", "<unk>", ""}, 1, 0, 0, 0, 0, 0, 2)
}

// P16.1: a vocabulary in which a word comes between two calls.
func TestPadLater(t *testing.T) {
	v := of(t, "a")
	pad(t, v, []string{"b", "a"}, 1, 0, 3, 2)
	if id, e := v.Add("b"); id != 4 || e != 0 {
		t.Fatalf("Add of b: %d, error %d", id, e)
	}
	pad(t, v, []string{"b", "a"}, 1, 4, 3, 2)
}

// P16.1: what Pad is handed is as it was, and what it told is the caller's own.
func TestPadApart(t *testing.T) {
	v := of(t, "a", "b")
	room := []string{"a", "b", "behind", "it"}
	p, q := window.Pad(v, room[:2]), window.Pad(v, room[:2])
	_ = append(p[:2], 9)
	for i := range p {
		p[i] = 9
	}
	room[0] = "b"
	if !slices.Equal(q, []int{1, 3, 4, 2}) {
		t.Errorf("two answers share, or hang on the list: %v", q)
	}
	if !slices.Equal(room, []string{"b", "b", "behind", "it"}) {
		t.Errorf("the list is changed: %q", room)
	}
	pad(t, v, room[:2], 1, 4, 4, 2)
}

// P16.1: texts by hand, by a vocabulary that has their words.
func TestAll(t *testing.T) {
	v := of(t, "a", "b", "c")
	all(t, v, "")
	all(t, v, "\n\n \n\t\v\f\r\n")
	all(t, v, "a", []int{1, 3, 2})
	all(t, v, "a\n", []int{1, 3, 2})
	all(t, v, "a  b\n\n <s> c \n", []int{1, 3, 4, 2}, []int{1, 5, 2})
	all(t, v, "\n\nb a\n\n\nc\r\n\n", []int{1, 4, 3, 2}, []int{1, 5, 2})
	all(t, v, "b\na\nb\na a", []int{1, 4, 2}, []int{1, 3, 2}, []int{1, 4, 2}, []int{1, 3, 3, 2})
}

// P16.1: marks in a text are no words of its sentences.
func TestAllMarks(t *testing.T) {
	v := of(t, "a", "b")
	all(t, v, "<s>")
	all(t, v, "<s> </s>\n</s>\n")
	all(t, v, "<s> a b </s>\n<s>\nb", []int{1, 3, 4, 2}, []int{1, 4, 2})
	all(t, v, "a <s> b", []int{1, 3, 4, 2})
	all(t, v, "<unk>\n<s>a", []int{1, 0, 2}, []int{1, 0, 2})
}

// P16.1: words that are too long, or that the vocabulary does not have, are <unk>.
func TestAllUnknown(t *testing.T) {
	fits, long := strings.Repeat("x", 255), strings.Repeat("x", 256)
	v := of(t, "a", fits)
	all(t, v, fits+"\n"+long, []int{1, 4, 2}, []int{1, 0, 2})
	all(t, v, "a "+long+" a "+strings.Repeat("y", 255), []int{1, 3, 0, 3, 0, 2})
	all(t, v, "b c\nc", []int{1, 0, 0, 2}, []int{1, 0, 2})
	all(t, vocab.New(), "a b\n\nc", []int{1, 0, 0, 2}, []int{1, 0, 2})
	all(t, nil, "a b\n\n<s>\nc", []int{1, 0, 0, 2}, []int{1, 0, 2})
	all(t, nil, "")
	if v.Len() != 5 {
		t.Errorf("words have come: %q", v.Words())
	}
}

// P16.1: All is Pad of each sentence, by vocabularies of the text's words, of
// others and of none.
func TestAllAgainstPad(t *testing.T) {
	parts := []string{"a ", "b", "c\n", "<s>", " ", "\n", "\t</s>\r", strings.Repeat("q", 200), "<unk> "}
	for seed := range 200 {
		var text string
		for i := range seed % 50 {
			text += parts[mixed(seed*1_000_003+i, len(parts))]
		}
		learnt, _ := vocab.Learn(text, 1000)
		for _, v := range []*vocab.Vocab{nil, vocab.New(), of(t, "b", "a"), learnt} {
			var want [][]int
			for _, words := range token.All(text) {
				p := []int{1}
				for _, s := range words {
					p = append(p, v.ID(s))
				}
				want = append(want, append(p, 2))
			}
			all(t, v, text, want...)
		}
	}
}

// P16.1: the sentences of one answer share nothing.
func TestAllApart(t *testing.T) {
	v := of(t, "a", "b", "c")
	want := [][]int{{1, 3, 4, 2}, {1, 5, 2}, {1, 3, 2}}
	l := window.All(v, "a b\nc\na")
	for _, p := range l {
		_ = append(p, 7)
	}
	if !sameLists(l, want) {
		t.Errorf("what is added to a sentence is in another one: %v", l)
	}
	for i, p := range l {
		clear(p)
		if !sameLists(l[i+1:], want[i+1:]) {
			t.Errorf("the sentences share: %v", l)
		}
	}
	all(t, v, "a b\nc\na", want...)
}

// P16.2: lists by hand.
func TestGrams(t *testing.T) {
	grams(t, nil, 1)
	grams(t, []int{}, 0)
	grams(t, []int{7}, 1, gram{0, []int{7}})
	grams(t, []int{7}, 2)
	grams(t, []int{1, 2}, 1, gram{0, []int{1}}, gram{1, []int{2}})
	grams(t, []int{5, 5, 5, 5}, 2, gram{0, []int{5, 5}}, gram{1, []int{5, 5}}, gram{2, []int{5, 5}})
	p := []int{9, -3, 0, most, least}
	for _, n := range []int{least, -5, -1, 0, 6, 7, 1 << 32, most} {
		grams(t, p, n)
	}
	grams(t, p, 3, gram{0, []int{9, -3, 0}}, gram{1, []int{-3, 0, most}}, gram{2, []int{0, most, least}})
	grams(t, p, 4, gram{0, []int{9, -3, 0, most}}, gram{1, []int{-3, 0, most, least}})
	grams(t, p, 5, gram{0, p})
}

// P16.2: against n-grams put together number by number.
func TestGramsAgainstPlain(t *testing.T) {
	for _, p := range someLists() {
		before := slices.Clone(p)
		for _, n := range spans(len(p)) {
			grams(t, p, n, plainGrams(p, n)...)
		}
		if !slices.Equal(p, before) {
			t.Fatalf("the list %v is changed: %v", before, p)
		}
	}
	everyList(5, 3, func(p []int) {
		for n := range 7 {
			grams(t, p, n, plainGrams(p, n)...)
		}
	})
}

// P16.2: an n-gram that was told is changed neither by what is told later, nor by a
// change of the list.
func TestGramsToldStay(t *testing.T) {
	for n := 1; n <= 6; n++ {
		p := rising(6)
		want := plainGrams(p, n)
		told := toldGrams(window.Grams(p, n))
		toldGrams(window.Grams([]int{0, 0, 0, 0, 0, 0}, n))
		clear(p)
		if !sameGrams(told, want) {
			t.Errorf("the %d-grams that were told: %v, not %v", n, told, want)
		}
	}
}

// P16.2: a change of an n-gram that was told changes neither the list, nor what is
// told later, nor what was told ahead.
func TestGramsToldApart(t *testing.T) {
	for n := 1; n <= 6; n++ {
		room := rising(8)
		want := plainGrams(room[:6], n)
		s := window.Grams(room[:6], n)
		var told [][]int
		for i, g := range s {
			if !slices.Equal(g, want[i].g) {
				t.Fatalf("the %d-gram at %d: %v, not %v", n, i, g, want[i].g)
			}
			told = append(told, g)
			_ = append(g, -1)
			for k := range g {
				g[k] = -100 * i
			}
		}
		for i, g := range told {
			if !slices.Equal(g, slices.Repeat([]int{-100 * i}, n)) {
				t.Errorf("the %d-gram at %d shares with another one: %v", n, i, g)
			}
		}
		if !slices.Equal(room, rising(8)) {
			t.Errorf("the list is changed, or what lies behind it: %v", room)
		}
		if got := toldGrams(s); !sameGrams(got, want) {
			t.Errorf("the %d-grams behind a change of what was told: %v, not %v", n, got, want)
		}
	}
}

// P16.2: the list is not kept: who handed it in may change it ahead of a going and
// in its midst.
func TestGramsListApart(t *testing.T) {
	for n := 1; n <= 5; n++ {
		p := rising(5)
		want := plainGrams(p, n)
		s := window.Grams(p, n)
		p[0], p[4] = -1, -2
		if got := toldGrams(s); !sameGrams(got, want) {
			t.Errorf("the %d-grams behind a change of the list: %v, not %v", n, got, want)
		}
		var got []gram
		for i, g := range s {
			got = append(got, gram{i, g})
			for k := range p {
				p[k] = -1000*i - k
			}
		}
		if !sameGrams(got, want) {
			t.Errorf("the %d-grams while the list is changed: %v, not %v", n, got, want)
		}
	}
}

// P16.2: what lies behind a list's length is not of the list.
func TestGramsBehind(t *testing.T) {
	room := []int{4, 5, 6, 7, 8}
	grams(t, room[:3], 2, gram{0, []int{4, 5}}, gram{1, []int{5, 6}})
	grams(t, room[:3], 4)
	grams(t, room[:0], 1)
	grams(t, room[1:3], 2, gram{0, []int{5, 6}})
	each(t, [][]int{room[:2], room[3:4]}, 2, []int{4, 5})
	count(t, [][]int{room[:3]}, []int{6, 7}, 0)
	ahead(t, room[:3], 4, 2)
	if !slices.Equal(room, []int{4, 5, 6, 7, 8}) {
		t.Errorf("the list is changed: %v", room)
	}
}

// P16.2: a going over that is gone over again, also within itself.
func TestGramsAgain(t *testing.T) {
	for _, p := range [][]int{nil, {7}, {1, 3, 4, 2}, rising(9)} {
		for _, n := range []int{-1, 0, 1, 2, 4, 9, 10} {
			want := plainGrams(p, n)
			s := window.Grams(p, n)
			for range 3 {
				if got := toldGrams(s); !sameGrams(got, want) {
					t.Errorf("the %d-grams of %v: %v, not %v", n, p, got, want)
				}
			}
			var outer []gram
			for i, g := range s {
				outer = append(outer, gram{i, g})
				if got := toldGrams(s); !sameGrams(got, want) {
					t.Errorf("the %d-grams of %v within: %v, not %v", n, p, got, want)
				}
			}
			if !sameGrams(outer, want) {
				t.Errorf("the %d-grams of %v: %v, not %v", n, p, outer, want)
			}
		}
	}
}

// P16.2: a going over that is ended at each of its rounds, and begins anew behind
// that.
func TestGramsEndedEarly(t *testing.T) {
	for _, p := range [][]int{{7}, {1, 3, 4, 2}, rising(9)} {
		for n := 1; n <= len(p); n++ {
			want := plainGrams(p, n)
			s := window.Grams(p, n)
			for last := range want {
				var got []gram
				s(func(i int, g []int) bool {
					got = append(got, gram{i, g})
					return len(got) <= last
				})
				if !sameGrams(got, want[:last+1]) {
					t.Errorf("the %d-grams of %v up to %d: %v", n, p, last, got)
				}
				if again := toldGrams(s); !sameGrams(again, want) {
					t.Errorf("the %d-grams of %v behind an end: %v, not %v", n, p, again, want)
				}
			}
		}
	}
}

// P16.2: lists of lists by hand: none, empty ones, and such as are too short.
func TestEach(t *testing.T) {
	for _, n := range []int{least, -1, 0, 1, 2, most} {
		each(t, nil, n)
		each(t, [][]int{}, n)
		each(t, [][]int{nil}, n)
		each(t, [][]int{nil, {}, nil}, n)
	}
	l := [][]int{{1, 3, 4, 2}, nil, {1, 2}, {5}, {}, {1, 4, 2}}
	for _, n := range []int{least, -3, -1, 0, 5, 6, 1 << 32, most} {
		each(t, l, n)
	}
	each(t, l, 1, []int{1}, []int{3}, []int{4}, []int{2}, []int{1}, []int{2}, []int{5}, []int{1}, []int{4}, []int{2})
	each(t, l, 2, []int{1, 3}, []int{3, 4}, []int{4, 2}, []int{1, 2}, []int{1, 4}, []int{4, 2})
	each(t, l, 3, []int{1, 3, 4}, []int{3, 4, 2}, []int{1, 4, 2})
	each(t, l, 4, []int{1, 3, 4, 2})
	each(t, [][]int{{7}, {8}, {9}}, 2)
	each(t, [][]int{nil, {8, 9}}, 2, []int{8, 9})
	each(t, [][]int{{8, 9}, {8}}, 2, []int{8, 9})
}

// P16.2: Each against plain n-grams.
func TestEachAgainstPlain(t *testing.T) {
	lists := someLists()
	for seed := range 100 {
		var l [][]int
		for i := range seed % 7 {
			l = append(l, lists[mixed(seed*1_000_003+i, len(lists))])
		}
		before := copied(l)
		for _, n := range []int{-1, 0, 1, 2, 3, 4, 5, 8, 13, 39, 40, 300, 301, most} {
			each(t, l, n, plainEach(l, n)...)
		}
		if !sameLists(l, before) {
			t.Fatalf("the lists are changed: %.200v", l)
		}
	}
	each(t, lists, 3, plainEach(lists, 3)...)
}

// P16.2: what Each tells is memory of its own, and its lists are not kept.
func TestEachApart(t *testing.T) {
	for n := 1; n <= 4; n++ {
		l := [][]int{rising(4), nil, {1, 2, 3, 4, 5}, {6}}
		before := copied(l)
		want := plainEach(l, n)
		s := window.Each(l, n)
		for g := range s {
			_ = append(g, -1)
			clear(g)
		}
		if !sameLists(l, before) {
			t.Errorf("the lists are changed by a change of what was told: %v", l)
		}
		told := slices.Collect(s)
		clear(l[0])
		l[2][1] = -7
		if !sameLists(told, want) {
			t.Errorf("the %d-grams that were told: %v, not %v", n, told, want)
		}
		l[0], l[1] = nil, []int{9, 9, 9, 9}
		if got := slices.Collect(s); !sameLists(got, want) {
			t.Errorf("the %d-grams behind a change of the lists: %v, not %v", n, got, want)
		}
	}
}

// P16.2: Each ended at each of its rounds, gone over again behind that, and within
// itself. The ends lie within the first list, between two and within the last one.
func TestEachEndedEarly(t *testing.T) {
	for _, l := range [][][]int{{{7}}, {nil, {1, 3, 4, 2}, {5}, {1, 2, 3}, {}}, {{1, 3, 4, 2}, {1, 4, 2}}, {rising(5), rising(4), rising(6)}} {
		for n := range 7 {
			want := plainEach(l, n)
			s := window.Each(l, n)
			for last := range want {
				var got [][]int
				s(func(g []int) bool {
					got = append(got, g)
					return len(got) <= last
				})
				if !sameLists(got, want[:last+1]) {
					t.Errorf("the %d-grams of %v up to %d: %v", n, l, last, got)
				}
				if again := slices.Collect(s); !sameLists(again, want) {
					t.Errorf("the %d-grams of %v behind an end: %v, not %v", n, l, again, want)
				}
			}
			for range s {
				if within := slices.Collect(s); !sameLists(within, want) {
					t.Errorf("the %d-grams of %v within: %v, not %v", n, l, within, want)
				}
			}
		}
	}
}

// P16.3: how often n-grams are there, by hand.
func TestCount(t *testing.T) {
	l := [][]int{{1, 3, 4, 2}, nil, {1, 4, 3, 4, 2}, {5}}
	count(t, nil, nil, 0)
	count(t, nil, []int{1}, 0)
	count(t, [][]int{}, []int{1, 2}, 0)
	count(t, [][]int{nil, {}}, []int{0}, 0)
	count(t, l, nil, 0)
	count(t, l, []int{}, 0)
	count(t, [][]int{nil}, nil, 0)
	count(t, l, []int{1}, 2)
	count(t, l, []int{4}, 3)
	count(t, l, []int{5}, 1)
	count(t, l, []int{6}, 0)
	count(t, l, []int{-1}, 0)
	count(t, l, []int{3, 4}, 2)
	count(t, l, []int{4, 2}, 2)
	count(t, l, []int{4, 3}, 1)
	count(t, l, []int{3, 1}, 0)
	count(t, l, []int{3, 4, 2}, 2)
	count(t, l, []int{1, 3, 4, 2}, 1)
	count(t, l, []int{1, 3, 4, 2, 1}, 0)
	count(t, l, rising(100), 0)
	count(t, [][]int{{least, most, least}}, []int{least}, 2)
}

// P16.3: what stands across two lists, or across a list's end and its beginning, is
// no n-gram.
func TestCountAcross(t *testing.T) {
	l := [][]int{{1, 3, 2}, {1, 4, 2}}
	count(t, l, []int{2, 1}, 0)
	count(t, l, []int{3, 2, 1}, 0)
	count(t, l, []int{3, 2, 1, 4}, 0)
	count(t, [][]int{{1, 3, 2}, nil, {1, 4, 2}}, []int{2, 1}, 0)
	count(t, [][]int{{1}, {2}}, []int{1, 2}, 0)
	count(t, [][]int{{2, 1}}, []int{1, 2}, 0)
}

// P16.3: places that overlap count each.
func TestCountOverlap(t *testing.T) {
	for k := range 30 {
		for n := 1; n < 34; n++ {
			want := max(0, k-n+1)
			count(t, [][]int{make([]int, k)}, make([]int, n), want)
			count(t, [][]int{make([]int, k), {1}, make([]int, k)}, make([]int, n), 2*want)
		}
	}
	count(t, [][]int{{1, 2, 1, 2, 1, 2, 1}}, []int{1, 2, 1}, 3)
	count(t, [][]int{{1, 1, 2, 1, 1, 2, 1, 1}}, []int{1, 1, 2, 1, 1}, 2)
}

// P16.3: against plain n-grams, of all small lists and of some of chance.
func TestCountAgainstPlain(t *testing.T) {
	everyList(4, 2, func(p []int) {
		everyList(4, 2, func(g []int) {
			count(t, [][]int{p}, g, plainCount([][]int{p}, g))
			l := [][]int{p, {1, 0}, p[:len(p)/2]}
			count(t, l, g, plainCount(l, g))
		})
	})
	lists := someLists()
	for seed := range 60 {
		p := lists[mixed(seed, len(lists))]
		for n := 1; n <= min(len(p), 12); n++ {
			at := mixed(seed*100+n, len(p)-n+1)
			g := slices.Clone(p[at : at+n])
			count(t, lists, g, plainCount(lists, g))
		}
	}
}

// P16.3: each n-gram that Each tells is counted as often as it is told.
func TestCountOfEach(t *testing.T) {
	l := window.All(of(t, "a", "b", "c"), "a b a\nb a b a c\n\nzz a b\nc")
	for n := 1; n <= 8; n++ {
		together := 0
		var seen [][]int
		for g := range window.Each(l, n) {
			if !slices.ContainsFunc(seen, func(h []int) bool { return slices.Equal(g, h) }) {
				seen = append(seen, g)
				together += window.Count(l, g)
			}
		}
		if want := len(plainEach(l, n)); together != want {
			t.Errorf("all %d-grams are counted %d times together, not %d", n, together, want)
		}
	}
}

// P16.3: Count changes nothing that it is handed.
func TestCountApart(t *testing.T) {
	room := []int{1, 3, 4, 2, 3, 4}
	l := [][]int{room[:4], room[1:3]}
	g := room[4:5]
	count(t, l, g, 2)
	count(t, l, room[4:6], 2)
	count(t, l, room[4:4], 0)
	if !slices.Equal(room, []int{1, 3, 4, 2, 3, 4}) {
		t.Errorf("the lists are changed: %v", room)
	}
}

// P16.3: the numbers ahead of a place, by hand.
func TestAhead(t *testing.T) {
	p := []int{1, 3, 4, 2}
	for _, n := range []int{least, -4, -1, 0, 1, 2, 4, 5, most} {
		for _, i := range []int{least, -5, -2, -1, 0, 5, 6, 1 << 32, most} {
			ahead(t, p, i, n)
		}
		for _, i := range []int{least, -1, 0, 1, most} {
			ahead(t, nil, i, n)
		}
	}
	for i := range 5 {
		for _, n := range []int{least, least + 1, -4, -1, 0} {
			ahead(t, p, i, n)
		}
	}
	ahead(t, p, 1, 1, 1)
	ahead(t, p, 1, 2, 1)
	ahead(t, p, 2, 1, 3)
	ahead(t, p, 2, 2, 1, 3)
	ahead(t, p, 3, 2, 3, 4)
	ahead(t, p, 3, most, 1, 3, 4)
	ahead(t, p, 4, 1, 2)
	ahead(t, p, 4, 3, 3, 4, 2)
	ahead(t, p, 4, 4, 1, 3, 4, 2)
	ahead(t, p, 4, 5, 1, 3, 4, 2)
	ahead(t, p, 4, most, 1, 3, 4, 2)
	ahead(t, []int{9}, 1, 1, 9)
}

// P16.3: against the numbers looked at one by one.
func TestAheadAgainstPlain(t *testing.T) {
	for k := range 20 {
		p := rising(k)
		for i := -3; i < k+4; i++ {
			for _, n := range spans(k) {
				ahead(t, p, i, n, plainAhead(p, i, n)...)
			}
		}
		if !slices.Equal(p, rising(k)) {
			t.Fatalf("the list is changed: %v", p)
		}
	}
}

// P16.3: what Ahead told is the caller's own.
func TestAheadApart(t *testing.T) {
	p := rising(5)
	got, again := window.Ahead(p, 3, 2), window.Ahead(p, 3, 2)
	_ = append(got, -1)
	_ = append(got[:1], -2)
	clear(got)
	if !slices.Equal(p, rising(5)) {
		t.Errorf("the list is changed by a change of what was told: %v", p)
	}
	clear(p)
	if !slices.Equal(again, []int{13, 16}) {
		t.Errorf("two answers share, or hang on the list: %v", again)
	}
}

// P16.4: how many n-grams a list has, and that they lie at all the places.
func TestHowMany(t *testing.T) {
	for k := range 60 {
		for _, p := range [][]int{rising(k), make([]int, k), chance(k, k, 3)} {
			for _, n := range spans(k) {
				want := 0
				if n >= 1 && n <= k {
					want = k - n + 1
				}
				got := 0
				for i, g := range window.Grams(p, n) {
					if i != got || len(g) != n {
						t.Fatalf("of %d numbers, the %d-gram %d: place %d, %d numbers", k, n, got, i, len(g))
					}
					got++
				}
				if got != want {
					t.Fatalf("%d numbers have %d %d-grams, not %d", k, got, n, want)
				}
				if got := len(slices.Collect(window.Each([][]int{p, nil, p}, n))); got != 2*want {
					t.Fatalf("twice %d numbers have %d %d-grams, not %d", k, got, n, 2*want)
				}
			}
		}
	}
}

// P16.4: of a padded sentence of k words, too.
func TestHowManyOfPadded(t *testing.T) {
	for k := range 20 {
		p := window.Pad(of(t, "a"), slices.Repeat([]string{"a"}, k))
		for n := 1; n <= k+2; n++ {
			if got := len(toldGrams(window.Grams(p, n))); got != k+3-n {
				t.Errorf("a padded sentence of %d words has %d %d-grams", k, got, n)
			}
		}
		grams(t, p, k+3)
	}
}
