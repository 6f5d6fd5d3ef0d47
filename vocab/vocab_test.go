package vocab_test

import (
	"fmt"
	"locution/api"
	"locution/token"
	"locution/vocab"
	"slices"
	"strings"
	"testing"
)

// marks are the words that stand first in each vocabulary.
var marks = []string{"<unk>", "<s>", "</s>"}

// blanks are the bytes 9, 11, 12, 13 and 32, as the chapter 13 names them.
const blanks = "\t\v\f\r "

// wrong are texts that may not be words.
func wrong() []string {
	l := []string{
		"", "<s>", "</s>", "\n", "a\n", "\na", "a\nb", "\r\n", "<s> ", "\n</s>", "a b", "  ",
		strings.Repeat("x", 256), strings.Repeat("x", 257), strings.Repeat("x", 1<<16),
		strings.Repeat("ö", 128), strings.Repeat("<s>", 86), strings.Repeat("\x00", 256),
		strings.Repeat("x", 254) + " ", " " + strings.Repeat("x", 254), strings.Repeat("x", 256) + "\n",
		strings.Repeat("x", 100) + "\n" + strings.Repeat("x", 100), strings.Repeat(" ", 300),
	}
	for _, c := range blanks {
		s := string(c)
		l = append(l, s, s+"a", "a"+s, "a"+s+"b", s+s, "<unk>"+s)
	}
	return l
}

// right are texts that may be words, each once, none of them <unk>.
func right() []string {
	l := []string{
		"a", "b", "ab", "A", "s", "<", ">", "<>", "</>", "<s", "s>", "/s>", "</s", "<S>", "</S>", "<<s>", "<s>>", "<s></s>",
		"<s>a", "a<s>", "</s>a", "a</s>", "<UNK>", "unk", "<unk", "<unk>>", "\x00", "\x00\x00", "\xff", "\x80\x81", "\xc2",
		"\u00a0", "\u0085", "\u2003", "\u2028", "\u3000", "\ufeff", "größe", "日本", "\x1c", "\x1f", "\x7f", "0", "-1",
	}
	for _, n := range []int{2, 100, 253, 254, 255} {
		l = append(l, strings.Repeat("x", n), strings.Repeat("\xff", n))
	}
	return append(l, strings.Repeat("x", 254)+"y", "y"+strings.Repeat("x", 254), strings.Repeat("ö", 127)+"x")
}

// mixed is a number from 0 to below bound that looks as if by chance; of each i
// it is the same each time.
func mixed(i, bound int) int {
	x := (uint64(i) + 1) * 0x9e3779b97f4a7c15
	x ^= x >> 31
	x *= 0xbf58476d1ce4e5b9
	x ^= x >> 29
	return int(x % uint64(bound))
}

// chance is a text of n of these pieces that looks as if by chance.
func chance(seed, n int, pieces []string) string {
	var b strings.Builder
	for i := range n {
		b.WriteString(pieces[mixed(seed*1_000_003+i, len(pieces))])
	}
	return b.String()
}

// short is a text as a test tells it.
func short(s string) string {
	if len(s) > 60 {
		return s[:30] + " .. " + s[len(s)-30:]
	}
	return s
}

// with is the marks, and these words behind them.
func with(l ...string) []string { return append(slices.Clone(marks), l...) }

// numbered is n unlike words.
func numbered(n int) []string {
	l := make([]string, n)
	for i := range l {
		l[i] = fmt.Sprint("w", i)
	}
	return l
}

// holds fails, if the vocabulary has other words than these, in whatever way it is
// asked.
func holds(t *testing.T, v *vocab.Vocab, want []string) {
	t.Helper()
	if v == nil {
		t.Fatal("the vocabulary is nil")
	}
	if v.Len() != len(want) {
		t.Fatalf("Len: %d, not %d", v.Len(), len(want))
	}
	if got := v.Words(); !slices.Equal(got, want) {
		t.Fatalf("Words: %.200q, not %.200q", got, want)
	}
	ids := make([]int, len(want))
	for i, s := range want {
		ids[i] = i
		if got := v.Word(i); got != s {
			t.Fatalf("Word of %d: %q, not %q", i, short(got), short(s))
		}
		if got := v.ID(s); got != i {
			t.Fatalf("ID of %q: %d, not %d", short(s), got, i)
		}
		if !v.Has(s) {
			t.Fatalf("Has of %q: false", short(s))
		}
	}
	for _, i := range []int{-1 << 63, -3, -2, -1, len(want), len(want) + 1, 2*len(want) + 8, 1 << 32, 1<<63 - 1} {
		if got := v.Word(i); got != "" {
			t.Fatalf("Word of %d: %q, though there is none", i, short(got))
		}
	}
	if got := v.IDs(want); !slices.Equal(got, ids) {
		t.Fatalf("IDs of all words: %.200v", got)
	}
	if got := v.Line(ids); got != strings.Join(want, " ") {
		t.Fatalf("Line of all numbers: %q", short(got))
	}
}

// absent fails, if s is there.
func absent(t *testing.T, v *vocab.Vocab, s string) {
	t.Helper()
	if v.Has(s) || v.ID(s) != 0 {
		t.Fatalf("%q, that is not there: Has %t, ID %d", short(s), v.Has(s), v.ID(s))
	}
}

// add fails, if Add of s tells something else.
func add(t *testing.T, v *vocab.Vocab, s string, number int, e api.Errno) {
	t.Helper()
	if n, got := v.Add(s); n != number || got != e {
		t.Fatalf("Add of %q: %d, error %d, not %d, error %d", short(s), n, got, number, e)
	}
}

// of is the vocabulary that Of makes of these words, which may be.
func of(t *testing.T, words []string) *vocab.Vocab {
	t.Helper()
	v, e := vocab.Of(words)
	if e != api.OK {
		t.Fatalf("Of %.200q: error %d", words, e)
	}
	holds(t, v, words)
	return v
}

// ofFails fails, if Of these words has not the error want.
func ofFails(t *testing.T, words []string, want api.Errno) {
	t.Helper()
	if v, e := vocab.Of(words); e != want || v != nil {
		t.Fatalf("Of %.200q: error %d, not %d; vocabulary %v", words, e, want, v != nil)
	}
}

// learn fails, if Learn has an error, or another vocabulary than that of these
// words.
func learn(t *testing.T, text string, most int, want []string) *vocab.Vocab {
	t.Helper()
	v, e := vocab.Learn(text, most)
	if e != api.OK {
		t.Fatalf("Learn of %q, at most %d: error %d", short(text), most, e)
	}
	holds(t, v, want)
	return v
}

// learnFails fails, if Learn has not the error ErrLimit.
func learnFails(t *testing.T, text string, most int) {
	t.Helper()
	if v, e := vocab.Learn(text, most); e != api.ErrLimit || v != nil {
		t.Fatalf("Learn of %q, at most %d: error %d, vocabulary %v", short(text), most, e, v != nil)
	}
}

// learns fails, if Learn of text has other words, or if the bound is not just how
// many there are.
func learns(t *testing.T, text string, want []string) {
	t.Helper()
	n := len(want)
	for _, most := range []int{n, n + 1, n + 100, api.MaxWords, api.MaxWords + 1, 1<<63 - 1} {
		if most >= n {
			learn(t, text, most, want)
		}
	}
	for _, most := range []int{n - 1, n / 2, 3, 2, 1, 0, -1, -n, -1 << 63} {
		if most < n {
			learnFails(t, text, most)
		}
	}
}

// plainLearn is the words of the vocabulary of a text, found by looking through
// those that came ahead.
func plainLearn(text string) []string {
	l := with()
	for _, sentence := range token.All(text) {
		for _, s := range sentence {
			if !slices.Contains(l, s) {
				l = append(l, s)
			}
		}
	}
	return l
}

// someTexts are texts by hand, and some of chance.
func someTexts() []string {
	l := []string{
		"", "a", "b a\nb", "b a\nb <unk> c", "\n", "\n\n \n\t\n", "<s>", "<s> a </s>", "</s>\n<s>\n<unk>", "a b a b a",
		"a\n\n\nb\n", "a\r\nb\r\n", "\x00 \xff\n\xfe \x00", "größe 日本\n語 größe", "\u00a0 \u2003 \u0085",
		strings.Repeat("x", 255), strings.Repeat("x", 256), strings.Repeat("x", 300) + " b", "b " + strings.Repeat("x", 256) + " a",
		strings.Repeat("a b\n", 2000), strings.Repeat("a ", 5000), strings.Repeat("<s> ", 5000),
	}
	for i := range 150 {
		l = append(l,
			chance(i, i, []string{"a", "b", "c", " ", " ", "\n"}),
			chance(i, i, []string{"a ", "b ", "<s> ", "</s> ", "<unk> ", "\n", "\t", "c"}),
			chance(i, i%40, []string{"x", strings.Repeat("y", 128), " ", "\n", "\v"}))
	}
	return l
}

// The chapter's example.
func TestExample(t *testing.T) {
	learn(t, "b a\nb", 5, with("b", "a"))
	learnFails(t, "b a\nb", 4)
}

// P15.1: one of the first three words alone, in their order.
func TestNew(t *testing.T) {
	v := vocab.New()
	holds(t, v, []string{"<unk>", "<s>", "</s>"})
	if v.ID(token.Unk) != api.Unk || v.ID(token.Begin) != api.Begin || v.ID(token.End) != api.End {
		t.Error("the first words have other numbers than api tells")
	}
	absent(t, v, "")
	absent(t, v, "a")
}

// P15.1: two vocabularies do not know of each other.
func TestTwo(t *testing.T) {
	v, w := vocab.New(), vocab.New()
	add(t, v, "a", 3, api.OK)
	holds(t, w, marks)
	absent(t, w, "a")
	add(t, w, "b", 3, api.OK)
	add(t, w, "a", 4, api.OK)
	holds(t, v, with("a"))
	holds(t, w, with("b", "a"))
	holds(t, vocab.New(), marks)
}

// P15.1: texts that may be words, and such as may not.
func TestRight(t *testing.T) {
	for _, s := range append(right(), "<unk>") {
		if !vocab.Right(s) {
			t.Errorf("Right of %q: false", short(s))
		}
	}
	for _, s := range wrong() {
		if vocab.Right(s) {
			t.Errorf("Right of %q: true", short(s))
		}
	}
	for n := range 600 {
		if got := vocab.Right(strings.Repeat("x", n)); got != (n >= 1 && n <= 255) {
			t.Errorf("Right of %d bytes: %t", n, got)
		}
	}
}

// P15.1: each byte alone, at the front, in the midst and at the end of a text.
func TestRightBytes(t *testing.T) {
	long := strings.Repeat("x", 127)
	for i := range 256 {
		c := string([]byte{byte(i)})
		want := c != "\n" && !strings.Contains(blanks, c)
		for _, s := range []string{c, c + "a", "a" + c, "a" + c + "b", c + long, long + c, long + c + long, "<s>" + c, c + "</s>"} {
			if got := vocab.Right(s); got != want {
				t.Errorf("Right of %q: %t", s, got)
			}
		}
	}
}

// P15.1, P13.3: what token tells as words may be words, and what may be one is cut
// out as itself.
func TestRightIsCut(t *testing.T) {
	for i := range 3000 {
		s := chance(i, 1+i%6, []string{"a", "<s>", "</s>", "<", "s", ">", "/", "\t", " ", "\n", strings.Repeat("x", 63)})
		cut := token.All(s)
		want := len(cut) == 1 && len(cut[0]) == 1 && cut[0][0] == s
		if got := vocab.Right(s); got != want {
			t.Errorf("Right of %q: %t", short(s), got)
		}
		for _, sentence := range cut {
			for _, w := range sentence {
				if !vocab.Right(w) {
					t.Errorf("Right of the word %q: false", short(w))
				}
			}
		}
	}
}

// P15.1: words that come, and words that are there.
func TestAdd(t *testing.T) {
	v := vocab.New()
	words := with()
	for _, s := range right() {
		absent(t, v, s)
		add(t, v, s, len(words), api.OK)
		add(t, v, s, len(words), api.OK)
		words = append(words, s)
		holds(t, v, words)
	}
	for i, s := range words[3:] {
		add(t, v, s, i+3, api.OK)
	}
	add(t, v, "<unk>", 0, api.OK)
	holds(t, v, words)
}

// P15.1: what may not be a word does not come, though it is there already.
func TestAddWrong(t *testing.T) {
	for _, words := range [][]string{marks, with("a"), with("b", "a", "c")} {
		v := of(t, words)
		for _, s := range wrong() {
			add(t, v, s, 0, api.ErrWord)
			holds(t, v, words)
			if !slices.Contains(marks, s) {
				absent(t, v, s)
			}
		}
		add(t, v, "z", len(words), api.OK)
		holds(t, v, append(slices.Clone(words), "z"))
	}
}

// P15.1: up to as many words as there may be, and one more.
func TestAddFull(t *testing.T) {
	words := with(numbered(api.MaxWords - 3)...)
	v := vocab.New()
	for i, s := range words[3:] {
		add(t, v, s, i+3, api.OK)
	}
	for range 2 {
		add(t, v, "one", 0, api.ErrFull)
		add(t, v, strings.Repeat("x", 255), 0, api.ErrFull)
		// Neither what is there nor what may not be needs room.
		add(t, v, "w0", 3, api.OK)
		add(t, v, words[65535], 65535, api.OK)
		add(t, v, "<unk>", 0, api.OK)
		add(t, v, "<s>", 0, api.ErrWord)
		add(t, v, "one two", 0, api.ErrWord)
		add(t, v, "", 0, api.ErrWord)
	}
	holds(t, v, words)
	absent(t, v, "one")
}

// P15.1: against a plain list, of what looks as if by chance.
func TestAddChance(t *testing.T) {
	some := append(append(right(), wrong()...), numbered(60)...)
	for seed := range 10 {
		v, words := vocab.New(), with()
		for i := range 400 {
			s := some[mixed(seed*1_000_003+i, len(some))]
			n := slices.Index(words, s)
			switch {
			case slices.Contains(wrong(), s):
				add(t, v, s, 0, api.ErrWord)
			case n >= 0:
				add(t, v, s, n, api.OK)
			default:
				add(t, v, s, len(words), api.OK)
				words = append(words, s)
			}
		}
		holds(t, v, words)
	}
}

// P15.2: vocabularies of words that may be.
func TestOf(t *testing.T) {
	of(t, []string{"<unk>", "<s>", "</s>"})
	of(t, with("a"))
	of(t, with("b", "a"))
	of(t, with(right()...))
	l := right()
	slices.Reverse(l)
	of(t, with(l...))
	v := of(t, with("b", "a"))
	add(t, v, "a", 4, api.OK)
	add(t, v, "c", 5, api.OK)
	holds(t, v, with("b", "a", "c"))
}

// P15.2: the first three are others than they have to be.
func TestOfMarks(t *testing.T) {
	ofFails(t, nil, api.ErrArg)
	ofFails(t, []string{}, api.ErrArg)
	for n := range 3 {
		ofFails(t, marks[:n], api.ErrArg)
	}
	for i := range 27 {
		l := []string{marks[i/9], marks[i/3%3], marks[i%3]}
		if !slices.Equal(l, marks) {
			ofFails(t, l, api.ErrArg)
			ofFails(t, append(l, "a", "b"), api.ErrArg)
		}
	}
	for i := range marks {
		for _, s := range append(wrong(), append(right(), "<UNK>", "<S>", "<unk> ", "<s>\n")...) {
			if s == marks[i] {
				continue
			}
			l := with("y", "z")
			l[i] = s
			ofFails(t, l, api.ErrArg)
			ofFails(t, l[:3], api.ErrArg)
			ofFails(t, l[:i+1], api.ErrArg)
		}
		ofFails(t, slices.Delete(with("y", "z"), i, i+1), api.ErrArg)
		ofFails(t, slices.Insert(with("y", "z"), i, "x"), api.ErrArg)
	}
	ofFails(t, []string{"a", "b", "<unk>", "<s>", "</s>"}, api.ErrArg)
}

// P15.2: as many words as there may be, and more.
func TestOfMany(t *testing.T) {
	l := with(numbered(api.MaxWords)...)
	for _, n := range []int{api.MaxWords - 1, api.MaxWords} {
		of(t, l[:n])
	}
	ofFails(t, l[:api.MaxWords+1], api.ErrLimit)
	ofFails(t, l, api.ErrLimit)
	v := of(t, l[:api.MaxWords])
	add(t, v, "one", 0, api.ErrFull)
	v = of(t, l[:api.MaxWords-1])
	add(t, v, "one", api.MaxWords-1, api.OK)
	add(t, v, "two", 0, api.ErrFull)
}

// P15.2: a word that may not be, or that was there ahead, at each place.
func TestOfWords(t *testing.T) {
	words := numbered(6)
	for i := range len(words) + 1 {
		for _, s := range append(wrong(), marks...) {
			ofFails(t, slices.Insert(with(words...), 3+i, s), api.ErrWord)
		}
		for k := range i {
			ofFails(t, slices.Insert(with(words...), 3+i, words[k]), api.ErrWord)
		}
	}
	ofFails(t, with("a", "a"), api.ErrWord)
	ofFails(t, with("a", "b", "a"), api.ErrWord)
	l := with(numbered(api.MaxWords - 3)...)
	l[api.MaxWords-1] = l[3]
	ofFails(t, l, api.ErrWord)
	l[api.MaxWords-1] = "a b"
	ofFails(t, l, api.ErrWord)
	l[api.MaxWords-1] = "a"
	of(t, l)
}

// P15.2: of two errors the first one in the chapter's order is told.
func TestOfTwoErrors(t *testing.T) {
	many := with(numbered(api.MaxWords)...)
	marked := func(l []string) []string {
		l = slices.Clone(l)
		l[1], l[2] = l[2], l[1]
		return l
	}
	worded := func(l []string, s string) []string {
		l = slices.Clone(l)
		l[4] = s
		return l
	}
	ofFails(t, marked(many), api.ErrArg)
	ofFails(t, many[1:], api.ErrArg)
	ofFails(t, many[3:], api.ErrArg)
	for _, s := range []string{"", "a b", "<s>", many[3]} {
		ofFails(t, worded(many, s), api.ErrLimit)
		ofFails(t, worded(many[:api.MaxWords], s), api.ErrWord)
		ofFails(t, marked(worded(many, s)), api.ErrArg)
		ofFails(t, marked(worded(many[:10], s)), api.ErrArg)
	}
	ofFails(t, []string{"<unk>", "<s>", ""}, api.ErrArg)
	ofFails(t, []string{"a b"}, api.ErrArg)
}

// P15.2: a vocabulary does not hang on the list of which it was made, and that is
// not changed.
func TestOfApart(t *testing.T) {
	room := append(with("a", "b"), "behind", "it")
	l := room[:5]
	v := of(t, l)
	add(t, v, "c", 5, api.OK)
	if !slices.Equal(room, with("a", "b", "behind", "it")) {
		t.Errorf("the list is changed: %q", room)
	}
	for i := range l {
		l[i] = "x"
	}
	holds(t, v, with("a", "b", "c"))
	absent(t, v, "x")
}

// P15.2: Learn by hand.
func TestLearn(t *testing.T) {
	learns(t, "", marks)
	learns(t, "\n\n \n\t\v\f\r\n", marks)
	learns(t, "a", with("a"))
	learns(t, "a b c", with("a", "b", "c"))
	learns(t, "c b a", with("c", "b", "a"))
	learns(t, "b a\nb", with("b", "a"))
	learns(t, "\n\nb\n\n a b \n\nb\tc", with("b", "a", "c"))
	learns(t, "a a a\na", with("a"))
	learns(t, "a b a\nb c b\nc a", with("a", "b", "c"))
	learns(t, "a A\r\na", with("a", "A"))
	learns(t, "\x00 \xff \u00a0", with("\x00", "\xff", "\u00a0"))
	l := right()
	learns(t, strings.Join(l, " "), with(l...))
	learns(t, strings.Join(l, "\n"), with(l...))
	learns(t, strings.Join(l, "\n\n\t")+"\n"+strings.Join(l, " "), with(l...))
}

// P15.2: the marks as words of a text, <unk> among them, are none that come.
func TestLearnMarks(t *testing.T) {
	learns(t, "<s>", marks)
	learns(t, "</s>\n<s>\n<unk>", marks)
	learns(t, "<s> a </s>\n<s> b <unk> </s>", with("a", "b"))
	learns(t, "<unk> a <unk>", with("a"))
	learns(t, "<s>a </s>\n<S>", with("<s>a", "<S>"))
}

// P15.2: words of more than api.MaxWord bytes are <unk>.
func TestLearnLong(t *testing.T) {
	for _, n := range []int{1, 254, 255, 256, 257, 1000, 1 << 16} {
		s := strings.Repeat("x", n)
		want := with("a", s, "b")
		if n > 255 {
			want = with("a", "b")
		}
		learns(t, "a "+s+" b\n"+s, want)
	}
	learns(t, strings.Repeat("x", 256), marks)
	learns(t, strings.Repeat("x", 256)+"\n"+strings.Repeat("y", 300)+" "+strings.Repeat("y", 255), with(strings.Repeat("y", 255)))
}

// P15.2: against a plain list.
func TestLearnChance(t *testing.T) {
	for _, text := range someTexts() {
		learns(t, text, plainLearn(text))
	}
}

// P15.2: a text with as many words as there may be, and with more.
func TestLearnMany(t *testing.T) {
	words := numbered(api.MaxWords - 2)
	for _, between := range []string{" ", "\n"} {
		just := strings.Join(words[:api.MaxWords-3], between)
		want := with(words[:api.MaxWords-3]...)
		for _, most := range []int{api.MaxWords, api.MaxWords + 1, 1<<63 - 1} {
			learn(t, just, most, want)
			learn(t, just+between+just+" <unk> <s>", most, want)
			learnFails(t, strings.Join(words, between), most)
			learnFails(t, just+"\n\n"+just+" one", most)
		}
		learnFails(t, just, api.MaxWords-1)
		learnFails(t, just, 3)
		v := learn(t, just, api.MaxWords, want)
		add(t, v, "one", 0, api.ErrFull)
		add(t, v, "w0", 3, api.OK)
	}
}

// P15.2: the bound is Learn's alone, and not one of the vocabulary's.
func TestLearnThenAdd(t *testing.T) {
	v := learn(t, "b a\nb", 5, with("b", "a"))
	add(t, v, "a", 4, api.OK)
	add(t, v, "c", 5, api.OK)
	holds(t, v, with("b", "a", "c"))
	holds(t, learn(t, "b a\nb", 5, with("b", "a")), with("b", "a"))
}

// P15.3: Has and ID of words that are not there.
func TestAbsent(t *testing.T) {
	v := of(t, with("ab", "c", strings.Repeat("x", 255)))
	l := []string{"a", "b", "abc", "AB", "ab ", " ab", "ab\n", "ab\x00", "d", "", " ", "<unk", "<s> ", "</s>\n", "<S>", "zz"}
	for _, s := range append(l, strings.Repeat("x", 254), strings.Repeat("x", 256), strings.Repeat("ab", 5000)) {
		absent(t, v, s)
		absent(t, v, s)
	}
	holds(t, v, with("ab", "c", strings.Repeat("x", 255)))
	if !v.Has("<unk>") || v.ID("<unk>") != 0 || !v.Has("<s>") || v.ID("<s>") != 1 || !v.Has("</s>") || v.ID("</s>") != 2 {
		t.Error("the first three words are not there")
	}
}

// P15.3: the IDs of lists of words.
func TestIDs(t *testing.T) {
	v := of(t, with("b", "a"))
	for _, c := range []struct {
		l    []string
		want []int
	}{
		{nil, nil},
		{[]string{}, nil},
		{[]string{"a"}, []int{4}},
		{[]string{"zz"}, []int{0}},
		{[]string{"a", "zz", "b", "", "a"}, []int{4, 0, 3, 0, 4}},
		{[]string{"zz", "a", "zz"}, []int{0, 4, 0}},
		{[]string{"</s>", "<s>", "<unk>", "a b"}, []int{2, 1, 0, 0}},
	} {
		l := slices.Clone(c.l)
		if got := v.IDs(l); !slices.Equal(got, c.want) {
			t.Errorf("IDs of %q: %v, not %v", c.l, got, c.want)
		}
		if !slices.Equal(l, c.l) {
			t.Errorf("the list %q is changed: %q", c.l, l)
		}
	}
	holds(t, v, with("b", "a"))
}

// P15.3: the line of lists of numbers.
func TestLine(t *testing.T) {
	v := of(t, with("b", "a", "größe"))
	for _, c := range []struct {
		ids  []int
		want string
	}{
		{nil, ""},
		{[]int{}, ""},
		{[]int{4}, "a"},
		{[]int{0}, "<unk>"},
		{[]int{6}, "<unk>"},
		{[]int{-1}, "<unk>"},
		{[]int{1, 3, 99, 2}, "<s> b <unk> </s>"},
		{[]int{4, 4, 3}, "a a b"},
		{[]int{-1 << 63, 5, 1<<63 - 1, 3, 6, 0}, "<unk> größe <unk> b <unk> <unk>"},
		{[]int{6, 4}, "<unk> a"},
		{[]int{4, -2}, "a <unk>"},
	} {
		ids := slices.Clone(c.ids)
		if got := v.Line(ids); got != c.want {
			t.Errorf("Line of %v: %q, not %q", c.ids, got, c.want)
		}
		if !slices.Equal(ids, c.ids) {
			t.Errorf("the list %v is changed: %v", c.ids, ids)
		}
	}
	holds(t, v, with("b", "a", "größe"))
}

// P15.3: what is answered is the caller's own.
func TestAnswersApart(t *testing.T) {
	v := of(t, with("a", "b"))
	words, again := v.Words(), v.Words()
	_ = append(words[:4], "y")
	for i := range words {
		words[i] = "x"
	}
	holds(t, v, with("a", "b"))
	if !slices.Equal(again, with("a", "b")) {
		t.Errorf("two answers of Words share: %q", again)
	}
	add(t, v, "c", 5, api.OK)
	if !slices.Equal(again, with("a", "b")) {
		t.Errorf("an answer of Words changes with the vocabulary: %q", again)
	}
	_ = append(v.Words(), "y")
	add(t, v, "d", 6, api.OK)
	holds(t, v, with("a", "b", "c", "d"))

	ids, others := v.IDs([]string{"a", "b"}), v.IDs([]string{"a", "b"})
	ids[0] = 9
	if !slices.Equal(others, []int{3, 4}) {
		t.Errorf("two answers of IDs share: %v", others)
	}
}

// P15.1, P15.3: nil in every call.
func TestNil(t *testing.T) {
	var v *vocab.Vocab
	for _, s := range append(append(right(), wrong()...), marks...) {
		add(t, v, s, 0, api.ErrState)
		absent(t, v, s)
	}
	for i := -2; i < 6; i++ {
		if got := v.Word(i); got != "" {
			t.Errorf("Word of %d: %q", i, got)
		}
	}
	if v.Len() != 0 || len(v.Words()) != 0 {
		t.Errorf("Len %d, Words %q", v.Len(), v.Words())
	}
	if got := v.IDs([]string{"a", "<s>", "</s>", ""}); !slices.Equal(got, []int{0, 0, 0, 0}) {
		t.Errorf("IDs: %v", got)
	}
	if got := v.IDs(nil); len(got) != 0 {
		t.Errorf("IDs of no words: %v", got)
	}
	if got := v.Line([]int{0, 1, 2, 3, -1}); got != "<unk> <unk> <unk> <unk> <unk>" {
		t.Errorf("Line: %q", got)
	}
	if got := v.Line(nil); got != "" {
		t.Errorf("Line of no numbers: %q", got)
	}
}

// P15.4: of the words of a vocabulary is one that has the same, and that is one of
// its own.
func TestOfWordsOf(t *testing.T) {
	check := func(v *vocab.Vocab) {
		t.Helper()
		words := v.Words()
		w := of(t, words)
		holds(t, of(t, w.Words()), words)
		add(t, w, "new", len(words), api.OK)
		holds(t, v, words)
		absent(t, v, "new")
		add(t, v, "other", len(words), api.OK)
		absent(t, w, "other")
		holds(t, w, append(words, "new"))
	}
	check(vocab.New())
	check(of(t, with(right()...)))
	for _, text := range someTexts() {
		v, e := vocab.Learn(text, api.MaxWords)
		if e != api.OK {
			t.Fatalf("Learn of %q: error %d", short(text), e)
		}
		check(v)
	}
}

// P15.4: Learn of a text of known words adds none.
func TestLearnOfKnown(t *testing.T) {
	for _, text := range someTexts() {
		want := plainLearn(text)
		v := learn(t, text, len(want), want)
		learn(t, text+"\n"+text, len(want), want)
		var ids []int
		for i := range want {
			ids = append(ids, i)
		}
		learn(t, v.Line(ids), len(want), want)
		back := learn(t, strings.Join(v.Words(), "\n"), len(want), want)
		for i := range 40 {
			ids[mixed(i, len(ids))] = mixed(7*i+1, len(ids)+2)
		}
		for _, s := range token.Words(v.Line(ids)) {
			add(t, back, s, v.ID(s), api.OK)
		}
		w, e := vocab.Learn(v.Line(ids), len(want))
		if e != api.OK {
			t.Fatalf("Learn of %q, at most %d: error %d", short(v.Line(ids)), len(want), e)
		}
		for _, s := range w.Words() {
			if !v.Has(s) {
				t.Fatalf("%q comes of a text of known words", short(s))
			}
		}
		holds(t, back, want)
	}
}
