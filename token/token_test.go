package token

import (
	"iter"
	"slices"
	"strings"
	"testing"
)

// blanks are the blanks as the chapter names them.
var blanks = []byte{9, 11, 12, 13, 32}

// mixed is a number from 0 to below bound that looks as if by chance; of each i
// it is the same each time.
func mixed(i, bound int) int {
	x := (uint64(i) + 1) * 0x9e3779b97f4a7c15
	x ^= x >> 31
	x *= 0xbf58476d1ce4e5b9
	x ^= x >> 29
	return int(x % uint64(bound))
}

// chance is a text of n bytes of those of alphabet that looks as if by chance.
func chance(seed, n int, alphabet string) string {
	b := make([]byte, n)
	for i := range b {
		b[i] = alphabet[mixed(seed*1_000_003+i, len(alphabet))]
	}
	return string(b)
}

// plainLines is the lines of a text, put together byte by byte.
func plainLines(text string) []string {
	var l []string
	var line []byte
	for _, c := range []byte(text) {
		if c != 10 {
			line = append(line, c)
			continue
		}
		l = append(l, string(line))
		line = nil
	}
	return append(l, string(line))
}

// plainWords is the words of a line, cut once all its blanks are made alike.
func plainWords(line string) []string {
	b := []byte(line)
	for i, c := range b {
		if slices.Contains(blanks, c) {
			b[i] = 32
		}
	}
	var l []string
	for _, p := range strings.Split(string(b), " ") {
		switch {
		case p == "" || p == "<s>" || p == "</s>":
		case len(p) >= 256:
			l = append(l, "<unk>")
		default:
			l = append(l, p)
		}
	}
	return l
}

// plainAll is the sentences of a text.
func plainAll(text string) [][]string {
	var l [][]string
	for _, line := range plainLines(text) {
		if words := plainWords(line); len(words) > 0 {
			l = append(l, words)
		}
	}
	return l
}

// told is the lines that a going over tells; their numbers must be in a row.
func told(t *testing.T, lines iter.Seq2[int, string]) []string {
	t.Helper()
	var l []string
	for i, line := range lines {
		if i != len(l) {
			t.Errorf("the line %d has the number %d", len(l), i)
		}
		l = append(l, line)
	}
	return l
}

// short is a text as a test tells it.
func short(s string) string {
	if len(s) > 60 {
		return s[:30] + " .. " + s[len(s)-30:]
	}
	return s
}

// words fails, if Words of line tells something else.
func words(t *testing.T, line string, want ...string) {
	t.Helper()
	if got := Words(line); !slices.Equal(got, want) {
		t.Errorf("Words of %q: %q, not %q", short(line), got, want)
	}
}

// lines fails, if Lines of text tells something else.
func lines(t *testing.T, text string, want ...string) {
	t.Helper()
	if got := told(t, Lines(text)); !slices.Equal(got, want) {
		t.Errorf("Lines of %q: %q, not %q", short(text), got, want)
	}
}

// all fails, if All of text tells something else.
func all(t *testing.T, text string, want ...[]string) {
	t.Helper()
	if got := All(text); !slices.EqualFunc(got, want, slices.Equal) {
		t.Errorf("All of %q: %q, not %q", short(text), got, want)
	}
}

// everyText hands over all texts of up to most pieces out of these.
func everyText(most int, pieces []string, look func(string)) {
	var more func(s string, left int)
	more = func(s string, left int) {
		look(s)
		for _, p := range pieces {
			if left > 0 {
				more(s+p, left-1)
			}
		}
	}
	more("", most)
}

// someTexts are texts by hand, all of small ones, and some of chance.
func someTexts() []string {
	l := []string{
		"", "a", "a b", "a  b\n\n <s> c \n", "\n", "\n\n", "<s>\n</s>", " \n\t", "a\r\nb\r\n", "<unk>\n<unk> a",
		"\x00", "\x00 \xff\n\xfe", "\x80\x81 \x85\xa0", "\u00a0\u2003\u0085 x", "日本 語\nö",
		strings.Repeat("x", 255), strings.Repeat("x", 256), strings.Repeat("x", 257) + "\n" + strings.Repeat("y", 255),
		strings.Repeat("a ", 5000), strings.Repeat("a b\n", 5000), strings.Repeat("\n", 5000), strings.Repeat("<s> ", 5000),
		strings.Repeat("x", 1<<16), strings.Repeat("\x0a\x0b\x0c\x0d", 50),
	}
	everyText(4, []string{"a", "<", "s", ">", "/", " ", "\n", "\t"}, func(s string) { l = append(l, s) })
	everyText(4, []string{"b", "<s>", "</s>", "<unk>", "\r", "\n", "\v\f"}, func(s string) { l = append(l, s) })
	for i := range 300 {
		l = append(l, chance(i, i, "ab<s>/ \t\n\v\f\r"), chance(i, i, "a \n"), chance(i, i, "xyz\n\x00\xff\x85\xa0\xc2 "))
	}
	long := strings.Repeat("q", 250)
	for i := range 100 {
		l = append(l, strings.ReplaceAll(chance(i, 60, "abcQ \n"), "Q", long))
	}
	return l
}

// The chapter's example.
func TestExample(t *testing.T) {
	all(t, "a  b\n\n <s> c \n", []string{"a", "b"}, []string{"c"})
}

// The marks' and <unk>'s texts.
func TestTexts(t *testing.T) {
	if Unk != "<unk>" || Begin != "<s>" || End != "</s>" {
		t.Errorf("%q, %q, %q", Unk, Begin, End)
	}
}

// P13.1: each of the bytes, as a blank or none, asked for and between two others.
func TestBlank(t *testing.T) {
	for i := range 256 {
		c := byte(i)
		want := slices.Contains(blanks, c)
		if got := Blank(c); got != want {
			t.Errorf("Blank(%d): %t", c, got)
		}
		s := string([]byte{c})
		if want {
			words(t, s)
			words(t, "a"+s+"b", "a", "b")
			words(t, s+"a", "a")
			words(t, "a"+s, "a")
			continue
		}
		words(t, s, s)
		words(t, "a"+s+"b", "a"+s+"b")
		words(t, s+" "+s, s, s)
	}
}

// P13.1: the marks, and what only looks like one.
func TestMark(t *testing.T) {
	for _, s := range []string{"<s>", "</s>"} {
		if !Mark(s) {
			t.Errorf("%q is no mark", s)
		}
	}
	likes := []string{
		"", "s", "<", ">", "<>", "</>", "<s", "s>", "/s>", "</s", "<S>", "</S>", "<<s>", "<s>>", "<s><s>", "<s></s>", "a<s>",
		"<s>a", "a</s>", "</s>a", "<s/>", "<//s>", " <s>", "<s> ", "\n<s>", "<s>\n", "<s>\x00", "<unk>", "<ss>", "< s>",
		strings.Repeat("<s>", 100),
	}
	for _, s := range likes {
		if Mark(s) {
			t.Errorf("%q is a mark", s)
		}
	}
}

// P13.1: marks are left out, what only looks like one is not.
func TestMarksInLines(t *testing.T) {
	words(t, "<s>")
	words(t, "</s>")
	words(t, "<s> </s>")
	words(t, "\t<s>\r</s>\f<s> ")
	words(t, "<s> a </s>", "a")
	words(t, "a <s> b </s> c", "a", "b", "c")
	words(t, "</s> a <s>", "a")
	likes := []string{"<s>a", "a<s>", "</s>a", "a</s>", "<s></s>", "<s><s>", "<S>", "<s", "/s>", "<s>>", "<<s>", "<s>.", "s"}
	for _, s := range likes {
		words(t, s, s)
		words(t, "<s> "+s+" </s>", s)
		words(t, s+" "+s, s, s)
	}
}

// P13.1: blanks ahead, behind, and several between.
func TestBlanksAround(t *testing.T) {
	words(t, "")
	words(t, "a", "a")
	words(t, "a b", "a", "b")
	words(t, "b a b", "b", "a", "b")
	for _, c := range blanks {
		for _, d := range blanks {
			run := string([]byte{c, d, c})
			words(t, run)
			words(t, run+"a", "a")
			words(t, "a"+run, "a")
			words(t, "a"+run+"b", "a", "b")
			words(t, run+"ab"+run+run+"c"+run, "ab", "c")
		}
	}
}

// P13.1: pieces of about 255 bytes: alone, first, last and in the midst.
func TestLongPieces(t *testing.T) {
	for _, n := range []int{1, 2, 127, 128, 253, 254, 255, 256, 257, 300, 510, 511, 512, 513, 1000, 65535, 65536, 1 << 20} {
		piece := strings.Repeat("x", n)
		want := piece
		if n > 255 {
			want = "<unk>"
		}
		words(t, piece, want)
		words(t, " "+piece+"\t", want)
		words(t, piece+" a", want, "a")
		words(t, "a "+piece, "a", want)
		words(t, "a "+piece+" <s> "+piece+" b", "a", want, want, "b")
		all(t, "a\n"+piece+"\n", []string{"a"}, []string{want})
	}
	words(t, strings.Repeat("ö", 127)+"x", strings.Repeat("ö", 127)+"x")
	words(t, strings.Repeat("ö", 128), "<unk>")
	words(t, strings.Repeat("<s>", 85), strings.Repeat("<s>", 85))
	words(t, strings.Repeat("<s>", 86), "<unk>")
	words(t, strings.Repeat("\x00", 255)+" "+strings.Repeat("\xff", 256), strings.Repeat("\x00", 255), "<unk>")
}

// P13.1: <unk> as a piece is that word.
func TestUnk(t *testing.T) {
	words(t, "<unk>", "<unk>")
	words(t, "a <unk> <s> <unk>", "a", "<unk>", "<unk>")
	words(t, "<unk>a <UNK> unk <unk", "<unk>a", "<UNK>", "unk", "<unk")
	all(t, "<unk>\n", []string{"<unk>"})
}

// P13.1: bytes above 127 and the byte 0 are bytes as others, valid text or not.
func TestAnyBytes(t *testing.T) {
	words(t, "\x00", "\x00")
	words(t, "\x00 \x00a\x00", "\x00", "\x00a\x00")
	words(t, "\x7f\x80 \xff", "\x7f\x80", "\xff")
	words(t, "\xc2 \xa0", "\xc2", "\xa0")
	words(t, "größe 日本 語", "größe", "日本", "語")
	// What other programs hold for blanks.
	words(t, "a\u00a0b \u0085 c\u2003d\u3000e \ufeff", "a\u00a0b", "\u0085", "c\u2003d\u3000e", "\ufeff")
	words(t, "a\x1cb\x1fc \x85 \xa0", "a\x1cb\x1fc", "\x85", "\xa0")
}

// P13.1: a byte 10 within what is handed to Words is a byte of a piece.
func TestLineEndInWords(t *testing.T) {
	words(t, "\n", "\n")
	words(t, "a\nb", "a\nb")
	words(t, "a \n b", "a", "\n", "b")
	words(t, "a b\n", "a", "b\n")
	words(t, "\n\n\ta", "\n\n", "a")
	words(t, "<s>\n </s>", "<s>\n")
	words(t, "\r\n", "\n")
	words(t, strings.Repeat("\n", 255)+" "+strings.Repeat("\n", 256), strings.Repeat("\n", 255), "<unk>")
}

// P13.1, P13.2: against plain cutting.
func TestAgainstPlain(t *testing.T) {
	for _, s := range someTexts() {
		words(t, s, plainWords(s)...)
		lines(t, s, plainLines(s)...)
		all(t, s, plainAll(s)...)
	}
}

// P13.2: lines by hand.
func TestLines(t *testing.T) {
	lines(t, "", "")
	lines(t, "\n", "", "")
	lines(t, "\n\n\n", "", "", "", "")
	lines(t, "a", "a")
	lines(t, "a\n", "a", "")
	lines(t, "\na", "", "a")
	lines(t, "a\nb", "a", "b")
	lines(t, "a\n\nb\n", "a", "", "b", "")
	lines(t, " a \n\t\n<s>\n<s> b", " a ", "\t", "<s>", "<s> b")
	lines(t, "a\r\nb\r", "a\r", "b\r")
	lines(t, "\r", "\r")
	lines(t, "a\x00\n\xff\n\x80", "a\x00", "\xff", "\x80")
	lines(t, "a\u2028b\u0085c\v\f", "a\u2028b\u0085c\v\f")
	long := strings.Repeat("x ", 100_000)
	lines(t, long+"\n"+long, long, long)
}

// P13.2: Lines is gone over again, and by several at a time.
func TestLinesAgain(t *testing.T) {
	for _, text := range []string{"", "\n", "a", "a\nb\n\nc", "a\nb\n"} {
		want := plainLines(text)
		seq := Lines(text)
		for range 3 {
			if got := told(t, seq); !slices.Equal(got, want) {
				t.Errorf("the lines of %q: %q, not %q", text, got, want)
			}
		}
		var outer []string
		for _, line := range seq {
			outer = append(outer, line)
			if got := told(t, seq); !slices.Equal(got, want) {
				t.Errorf("the lines of %q within: %q, not %q", text, got, want)
			}
		}
		if !slices.Equal(outer, want) {
			t.Errorf("the lines of %q: %q, not %q", text, outer, want)
		}
	}
}

// P13.2: Lines is ended at each of its rounds, and begins anew behind that.
func TestLinesEndedEarly(t *testing.T) {
	for _, text := range []string{"", "\n", "a", "a\nb\n\nc", "a\nb\n", "\n\n\n"} {
		want := plainLines(text)
		seq := Lines(text)
		for last := range want {
			var got []string
			seq(func(i int, line string) bool {
				if i != len(got) {
					t.Errorf("the line %d of %q has the number %d", len(got), text, i)
				}
				got = append(got, line)
				return i < last
			})
			if !slices.Equal(got, want[:last+1]) {
				t.Errorf("the lines of %q up to %d: %q", text, last, got)
			}
			if again := told(t, seq); !slices.Equal(again, want) {
				t.Errorf("the lines of %q behind an end: %q, not %q", text, again, want)
			}
		}
		for i, line := range seq {
			if i != 0 || line != want[0] {
				t.Errorf("the first line of %q: %d, %q", text, i, line)
			}
			break
		}
	}
}

// P13.2: All by hand; lines without a word are no sentences.
func TestAll(t *testing.T) {
	all(t, "")
	all(t, "\n")
	all(t, "\n\n \n\t\v\f\r\n")
	all(t, "<s>\n</s>\n <s> </s> \n")
	all(t, "a", []string{"a"})
	all(t, "a\n", []string{"a"})
	all(t, "\n\na\n\n", []string{"a"})
	all(t, "a b\r\nc\r\n", []string{"a", "b"}, []string{"c"})
	all(t, "b\na\nb", []string{"b"}, []string{"a"}, []string{"b"})
	all(t, "<s> a </s>\n<s>\n<unk>", []string{"a"}, []string{"<unk>"})
	all(t, "<s\n>", []string{"<s"}, []string{">"})
	all(t, "\x00\n\xff \x80", []string{"\x00"}, []string{"\xff", "\x80"})
	for _, n := range []int{254, 255, 256} {
		long := strings.Repeat("x", n)
		all(t, long+"\n"+long, Words(long), Words(long))
	}
}

// What is answered is the caller's own.
func TestAnswersApart(t *testing.T) {
	line := "a b c"
	first := Words(line)
	first[0] = "x"
	_ = append(first[:1], "y")
	words(t, line, "a", "b", "c")

	text := "a b\nc d\ne"
	l := All(text)
	for i := range l {
		_ = append(l[i], "z")
		l[i][0] = "x"
	}
	if l[0][1] != "b" || l[1][0] != "x" || l[1][1] != "d" || l[2][0] != "x" {
		t.Errorf("the sentences share: %q", l)
	}
	l[1] = nil
	all(t, text, []string{"a", "b"}, []string{"c", "d"}, []string{"e"})
}

// joined is the words, with a blank between any two: of the k-th kind, or, if
// there is none, now one and now another.
func joined(l []string, k int) string {
	var b []byte
	for i, s := range l {
		if i > 0 {
			blank := i % len(blanks)
			if k < len(blanks) {
				blank = k
			}
			b = append(b, blanks[blank])
		}
		b = append(b, s...)
	}
	return string(b)
}

// P13.3: what is told is a word, and words put together by blanks are cut as they
// were.
func TestWordsOfWords(t *testing.T) {
	for _, s := range someTexts() {
		cut := Words(s)
		for _, w := range cut {
			if w == "" || w == "<s>" || w == "</s>" || len(w) > 255 || strings.ContainsAny(w, "\t\v\f\r ") {
				t.Errorf("Words of %q tells %q", short(s), w)
			}
		}
		for k := range len(blanks) + 1 {
			words(t, joined(cut, k), cut...)
		}
	}
}

// P13.3: sentences, put together by lines, are cut as they were.
func TestAllOfAll(t *testing.T) {
	for _, s := range someTexts() {
		cut := All(s)
		var l []string
		for k, sentence := range cut {
			l = append(l, joined(sentence, k%(len(blanks)+1)))
		}
		all(t, strings.Join(l, "\n"), cut...)
	}
}
