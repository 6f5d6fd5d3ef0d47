package wire

import (
	"fmt"
	"locution/api"
	"math"
	"math/big"
	"strings"
	"testing"
)

const (
	least = math.MinInt
	most  = math.MaxInt
)

// mixed is a number that looks as if by chance; of each i it is the same each
// time.
func mixed(i int) uint64 {
	x := (uint64(i) + 1) * 0x9e3779b97f4a7c15
	x ^= x >> 31
	x *= 0xbf58476d1ce4e5b9
	return x ^ x>>29
}

// plainNum is a number's bytes, told by long division.
func plainNum(v *big.Int) string {
	var s strings.Builder
	rest, base := new(big.Int).Set(v), big.NewInt(128)
	for {
		low := new(big.Int)
		rest.DivMod(rest, base, low)
		if rest.Sign() == 0 {
			s.WriteByte(byte(low.Int64()))
			return s.String()
		}
		s.WriteByte(byte(low.Int64()) + 128)
	}
}

// plainInt is an int's bytes.
func plainInt(v int) string {
	twice := new(big.Int).Mul(big.NewInt(int64(v)), big.NewInt(2))
	if v < 0 {
		twice.Neg(twice)
		twice.Sub(twice, big.NewInt(1))
	}
	return plainNum(twice)
}

func plainText(s string) string { return plainNum(big.NewInt(int64(len(s)))) + s }

// numbers are those about each count of bits, and some by chance of all widths.
func numbers() []uint64 {
	l := []uint64{0, 1, 2, 3, 100, 300, math.MaxUint64}
	for k := range 64 {
		v := uint64(1) << k
		l = append(l, v-1, v, v+1, mixed(k)>>k, mixed(k+64)>>k)
	}
	return l
}

// ints are those about each power of two, on both sides of 0.
func ints() []int {
	l := []int{0, 1, -1, 63, 64, -64, -65, least, least + 1, most, most - 1}
	for k := range 63 {
		v := 1 << k
		l = append(l, v-1, v, v+1, -v-1, -v, 1-v, int(mixed(k))>>k)
	}
	return l
}

// texts are of all bytes, and of lengths about which the length's own bytes grow.
func texts() []string {
	all := ""
	for b := range 256 {
		all += string([]byte{byte(b)})
	}
	l := []string{"", "a", "ab", "\x00", "\x80", "\xff\xff", "löcution", all}
	for _, n := range []int{127, 128, 129, 1<<14 - 1, 1 << 14, 1<<14 + 1} {
		l = append(l, strings.Repeat("\x80z", n)[:n])
	}
	return l
}

// state is all that a reader tells.
func state(r *Reader) string { return fmt.Sprintf("%d %d %d", r.Left(), r.Err(), r.End()) }

// tells fails, if the reader tells something else.
func tells(t *testing.T, what string, r *Reader, left int, err, end api.Errno) {
	t.Helper()
	if got, want := state(r), fmt.Sprintf("%d %d %d", left, err, end); got != want {
		t.Errorf("%s: Left, Err, End are %s, not %s", what, got, want)
	}
}

// silent fails, if any read behind an error tells, takes or changes something.
func silent(t *testing.T, what string, r *Reader) {
	t.Helper()
	before := state(r)
	check := func(call string, none bool) {
		t.Helper()
		if !none {
			t.Errorf("%s: %s tells something", what, call)
		}
		if got := state(r); got != before {
			t.Errorf("%s: behind %s Left, Err, End are %s, not %s", what, call, got, before)
		}
	}
	check("Num", r.Num() == 0)
	check("Int", r.Int() == 0)
	for _, n := range []int{least, -1, 0, 1, 2, 300, most} {
		check(fmt.Sprintf("Upto %d", n), r.Upto(n) == 0)
		check(fmt.Sprintf("Text %d", n), r.Text(n) == "")
		check(fmt.Sprintf("Raw %d", n), r.Raw(n) == "")
	}
	r.Fail(api.OK)
	check("Fail OK", true)
	r.Fail(api.ErrLimit)
	check("Fail", true)
}

// written is what one act writes.
func written(act func(w *Writer)) string {
	w := &Writer{}
	act(w)
	return w.Bytes()
}

func num(v uint64) string  { return written(func(w *Writer) { w.Num(v) }) }
func text(s string) string { return written(func(w *Writer) { w.Text(s) }) }

func TestExample(t *testing.T) {
	if got := num(300); got != "\xac\x02" {
		t.Errorf("Num(300): %q", got)
	}
	if got := written(func(w *Writer) { w.Int(-1) }); got != "\x01" {
		t.Errorf("Int(-1): %q", got)
	}
	if got := text("ab"); got != "\x02ab" {
		t.Errorf("Text of ab: %q", got)
	}
}

// P10.1: numbers.
func TestNumbersWritten(t *testing.T) {
	for _, v := range numbers() {
		if got, want := num(v), plainNum(new(big.Int).SetUint64(v)); got != want {
			t.Errorf("Num(%d): %q, not %q", v, got, want)
		}
	}
	sizes := map[uint64]int{0: 1, 127: 1, 128: 2, 1<<14 - 1: 2, 1 << 14: 3, 1<<63 - 1: 9, 1 << 63: 10, math.MaxUint64: 10}
	for v, n := range sizes {
		if got := len(num(v)); got != n {
			t.Errorf("Num(%d) has %d bytes, not %d", v, got, n)
		}
	}
}

// P10.1: ints.
func TestIntsWritten(t *testing.T) {
	for _, v := range ints() {
		if got, want := written(func(w *Writer) { w.Int(v) }), plainInt(v); got != want {
			t.Errorf("Int(%d): %q, not %q", v, got, want)
		}
	}
	for v, want := range map[int]string{0: "\x00", -1: "\x01", 1: "\x02", -2: "\x03",
		most:  "\xfe\xff\xff\xff\xff\xff\xff\xff\xff\x01",
		least: "\xff\xff\xff\xff\xff\xff\xff\xff\xff\x01"} {
		if got := written(func(w *Writer) { w.Int(v) }); got != want {
			t.Errorf("Int(%d): %q, not %q", v, got, want)
		}
	}
}

// P10.1: texts, with their lengths and without.
func TestTextsWritten(t *testing.T) {
	for _, s := range texts() {
		if got, want := text(s), plainText(s); got != want {
			t.Errorf("Text of %d bytes: %q, not %q", len(s), got, want)
		}
		if got := written(func(w *Writer) { w.Raw(s) }); got != s {
			t.Errorf("Raw of %d bytes: %q", len(s), got)
		}
	}
}

// P10.1: the zero Writer has written nothing, and each call writes behind what
// was written.
func TestWrittenBehind(t *testing.T) {
	w := &Writer{}
	if w.Bytes() != "" {
		t.Errorf("the zero Writer has %q", w.Bytes())
	}
	want := ""
	behind := func(call, s string) {
		t.Helper()
		want += s
		if got := w.Bytes(); got != want {
			t.Fatalf("behind %s: %q, not %q", call, got, want)
		}
	}
	for i := range 60 {
		v := mixed(i) >> (i % 64)
		s := strings.Repeat("\xfeq", i)[:i]
		w.Num(v)
		behind("Num", plainNum(new(big.Int).SetUint64(v)))
		w.Int(-int(v >> 1))
		behind("Int", plainInt(-int(v>>1)))
		w.Text(s)
		behind("Text", plainText(s))
		w.Raw(s)
		behind("Raw", s)
		w.Raw("")
		behind("Raw of nothing", "")
		w.Text("")
		behind("Text of nothing", "\x00")
	}
}

// P10.1: what was told stays, whatever is written later, and writers have
// nothing to do with each other.
func TestBytesStay(t *testing.T) {
	a, b := &Writer{}, &Writer{}
	var told []string
	for i := range 40 {
		a.Num(uint64(i))
		b.Text("x")
		told = append(told, a.Bytes())
	}
	for i, s := range told {
		if len(s) != i+1 || s[i] != byte(i) {
			t.Errorf("what was told behind %d numbers is now %q", i+1, s)
		}
	}
	if got := b.Bytes(); got != strings.Repeat("\x01x", 40) {
		t.Errorf("the other writer has %q", got)
	}
}

// P10.1: a nil Writer writes nothing.
func TestNilWriter(t *testing.T) {
	var w *Writer
	w.Num(5)
	w.Int(-5)
	w.Text("five")
	w.Raw("five")
	if got := w.Bytes(); got != "" {
		t.Errorf("a nil Writer has %q", got)
	}
}

// bad are bytes that begin with a number that is wrong, and by what.
func bad() map[string]api.Errno {
	all := func(n int) string { return strings.Repeat("\x80", n) }
	l := map[string]api.Errno{
		"":                   api.ErrShort,
		all(9):               api.ErrShort,
		all(10):              api.ErrForm,
		all(10) + "\x00":     api.ErrForm,
		all(10) + "\x01":     api.ErrForm,
		all(11):              api.ErrForm,
		all(9) + "\x00":      api.ErrForm,
		all(9) + "\x02":      api.ErrForm,
		all(9) + "\x03":      api.ErrForm,
		all(9) + "\x7f":      api.ErrForm,
		all(9) + "\x81":      api.ErrForm,
		all(9) + "\x00\x01":  api.ErrForm,
		"\x80\x00":           api.ErrForm,
		"\xff\x00":           api.ErrForm,
		"\xff\x80\x00":       api.ErrForm,
		"\x81\x80\x00 more":  api.ErrForm,
		all(8) + "\x00\x01x": api.ErrForm,
	}
	for n := 1; n <= 9; n++ {
		l[strings.Repeat("\xff", n)] = api.ErrShort
		l[strings.Repeat("\xff", n)+"\x00"] = api.ErrForm
	}
	l[strings.Repeat("\xff", 10)] = api.ErrForm
	l[strings.Repeat("\xff", 9)+"\x02"] = api.ErrForm
	return l
}

// numberReads are all reads that begin with a number, with bounds that none is
// above, and some below 0.
func numberReads() map[string]func(r *Reader) bool {
	return map[string]func(r *Reader) bool{
		"Num":            func(r *Reader) bool { return r.Num() == 0 },
		"Int":            func(r *Reader) bool { return r.Int() == 0 },
		"Upto the most":  func(r *Reader) bool { return r.Upto(most) == 0 },
		"Upto -1":        func(r *Reader) bool { return r.Upto(-1) == 0 },
		"Upto the least": func(r *Reader) bool { return r.Upto(least) == 0 },
		"Text of all":    func(r *Reader) bool { return r.Text(most) == "" },
		"Text of -1":     func(r *Reader) bool { return r.Text(-1) == "" },
	}
}

// P10.2: a number that is wrong, at the beginning and behind other reads, and
// all reads behind it.
func TestWrongNumbers(t *testing.T) {
	for s, e := range bad() {
		for call, none := range numberReads() {
			for _, ahead := range []int{0, 1, 3} {
				what := fmt.Sprintf("%s of %q behind %d bytes", call, s, ahead)
				r := Open("\x05\x00\xff"[:ahead] + s)
				r.Raw(ahead)
				if !none(r) {
					t.Errorf("%s tells something", what)
				}
				tells(t, what, r, len(s), e, e)
				silent(t, what, r)
			}
		}
	}
}

// P10.2: of each number's bytes none may be missing, and one behind them is not
// looked at.
func TestCutNumbers(t *testing.T) {
	for _, v := range numbers() {
		s := num(v)
		for n := range len(s) {
			r := Open(s[:n])
			if got := r.Num(); got != 0 {
				t.Errorf("%d bytes of %d: %d", n, v, got)
			}
			tells(t, fmt.Sprintf("%d bytes of %d", n, v), r, n, api.ErrShort, api.ErrShort)
		}
		for _, behind := range []string{"\x00", "\x80", "\xff\xff"} {
			r := Open(s + behind)
			if got := r.Num(); got != v {
				t.Errorf("Num of %q: %d, not %d", s+behind, got, v)
			}
			tells(t, "bytes behind", r, len(behind), api.OK, api.ErrForm)
		}
	}
}

// P10.2: a tenth byte may be 1.
func TestTenthByte(t *testing.T) {
	for low, want := range map[string]uint64{"\x80": 1 << 63, "\xff": math.MaxUint64} {
		r := Open(strings.Repeat(low, 9) + "\x01")
		if got := r.Num(); got != want {
			t.Errorf("ten bytes: %d, not %d", got, want)
		}
		tells(t, "ten bytes", r, 0, api.OK, api.OK)
	}
}

// P10.2: Upto at each number, one below it and above it.
func TestUpto(t *testing.T) {
	for _, v := range numbers() {
		s := num(v)
		bounds := []int{least, -1, 0, 1, 127, most - 1, most}
		if v <= most {
			bounds = append(bounds, int(v), int(v)-1)
		}
		for _, bound := range bounds {
			what := fmt.Sprintf("Upto(%d) of %d", bound, v)
			r := Open(s + "behind")
			got := r.Upto(bound)
			if bound >= 0 && v <= uint64(bound) {
				if got != int(v) {
					t.Errorf("%s: %d", what, got)
				}
				tells(t, what, r, 6, api.OK, api.ErrForm)
				continue
			}
			if got != 0 {
				t.Errorf("%s: %d, not 0", what, got)
			}
			tells(t, what, r, len(s)+6, api.ErrRange, api.ErrRange)
			silent(t, what, r)
		}
	}
}

// P10.2: Int.
func TestInt(t *testing.T) {
	for _, v := range ints() {
		r := Open(plainInt(v) + "\x01")
		if got := r.Int(); got != v {
			t.Errorf("Int of %d: %d", v, got)
		}
		tells(t, fmt.Sprintf("Int of %d", v), r, 1, api.OK, api.ErrForm)
	}
}

// P10.2: Text at each length, one below it and above it.
func TestText(t *testing.T) {
	for _, s := range texts() {
		bytes := plainText(s)
		for _, bound := range []int{least, -1, 0, len(s) - 1, len(s), len(s) + 1, most} {
			what := fmt.Sprintf("Text(%d) of %d bytes", bound, len(s))
			r := Open(bytes + "\x80")
			got := r.Text(bound)
			if len(s) <= bound {
				if got != s {
					t.Errorf("%s: %q", what, got)
				}
				tells(t, what, r, 1, api.OK, api.ErrForm)
				continue
			}
			if got != "" {
				t.Errorf("%s: %q, not nothing", what, got)
			}
			tells(t, what, r, len(bytes)+1, api.ErrLong, api.ErrLong)
			silent(t, what, r)
		}
	}
}

// P10.2: a text of which bytes are missing; that it is too long comes first.
func TestShortText(t *testing.T) {
	for _, v := range []uint64{1, 2, 5, 127, 128, 300, 1 << 31, most - 1, most, 1 << 63, math.MaxUint64} {
		for _, left := range []string{"", "abcd"} {
			if uint64(len(left)) >= v {
				continue
			}
			s := num(v) + left
			for _, bound := range []int{least, -1, 0, 4, 128, most} {
				e := api.ErrShort
				if bound < 0 || v > uint64(bound) {
					e = api.ErrLong
				}
				what := fmt.Sprintf("Text(%d) of length %d with %q left", bound, v, left)
				r := Open(s)
				if got := r.Text(bound); got != "" {
					t.Errorf("%s: %q", what, got)
				}
				tells(t, what, r, len(s), e, e)
				silent(t, what, r)
			}
		}
	}
	for _, s := range texts() {
		bytes := plainText(s)
		if s == "" {
			continue
		}
		r := Open(bytes[:len(bytes)-1])
		if got := r.Text(most); got != "" {
			t.Errorf("a text without its last byte: %q", got)
		}
		tells(t, "a text without its last byte", r, len(bytes)-1, api.ErrShort, api.ErrShort)
	}
}

// P10.2: Raw at just what is left, one more, and counts that there are not.
func TestRaw(t *testing.T) {
	s := "ab\x80\x00\xff"
	for at := range len(s) + 1 {
		left := len(s) - at
		for _, n := range []int{least, -1, 0, 1, left, left + 1, 1 << 31, most - 1, most} {
			what := fmt.Sprintf("Raw(%d) with %d left", n, left)
			r := Open(s)
			r.Raw(at)
			tells(t, what, r, left, api.OK, map[bool]api.Errno{true: api.ErrForm}[left > 0])
			got := r.Raw(n)
			if n >= 0 && n <= left {
				if got != s[at:at+n] {
					t.Errorf("%s: %q", what, got)
				}
				tells(t, what, r, left-n, api.OK, map[bool]api.Errno{true: api.ErrForm}[left > n])
				continue
			}
			e := api.ErrShort
			if n < 0 {
				e = api.ErrArg
			}
			if got != "" {
				t.Errorf("%s: %q, not nothing", what, got)
			}
			tells(t, what, r, left, e, e)
			silent(t, what, r)
		}
	}
}

// P10.2: a read that is wrong takes nothing of what is there, and no later one
// that would be right does.
func TestNothingBehindError(t *testing.T) {
	r := Open("\x05\x03abc\x07")
	if r.Num() != 5 || r.Text(2) != "" {
		t.Error("reads ahead of the error")
	}
	tells(t, "a text that is too long", r, 5, api.ErrLong, api.ErrLong)
	silent(t, "a text that is too long", r)
	if r.Text(3) != "" || r.Raw(5) != "" || r.Upto(3) != 0 || r.Left() != 5 {
		t.Error("a read behind the error tells something")
	}
}

// P10.3: Fail ahead of a read, behind one, behind an error, and with OK.
func TestFail(t *testing.T) {
	for _, e := range []api.Errno{api.ErrArg, api.ErrShort, api.ErrSum, api.ErrLimit, 99, -1} {
		r := Open("\x05\x06")
		r.Fail(e)
		tells(t, "Fail ahead of a read", r, 2, e, e)
		silent(t, "Fail ahead of a read", r)

		r = Open("\x05\x06")
		if r.Num() != 5 {
			t.Error("Num ahead of Fail")
		}
		r.Fail(api.OK)
		tells(t, "Fail with OK", r, 1, api.OK, api.ErrForm)
		if r.Num() != 6 {
			t.Error("Num behind Fail with OK")
		}
		r.Fail(e)
		tells(t, "Fail at the end", r, 0, e, e)
		silent(t, "Fail at the end", r)

		r = Open("\x05")
		r.Raw(2)
		r.Fail(e)
		tells(t, "Fail behind an error", r, 1, api.ErrShort, api.ErrShort)

		r = Open("\x05")
		r.Fail(e)
		r.Fail(api.ErrOrder)
		r.Fail(api.OK)
		tells(t, "Fail behind Fail", r, 1, e, e)
	}
}

// P10.3: Left, Err and End from the beginning to the end, and asked again.
func TestLeft(t *testing.T) {
	tells(t, "no bytes", Open(""), 0, api.OK, api.OK)
	r := Open("\x05\x01a\xac\x02")
	for _, left := range []int{5, 4, 2} {
		tells(t, "bytes left", r, left, api.OK, api.ErrForm)
		tells(t, "bytes left, asked again", r, left, api.OK, api.ErrForm)
		switch left {
		case 5:
			r.Num()
		case 4:
			r.Text(1)
		case 2:
			r.Upto(300)
		}
	}
	tells(t, "at the end", r, 0, api.OK, api.OK)
	if r.Raw(0) != "" {
		t.Error("Raw(0) at the end tells something")
	}
	tells(t, "Raw(0) at the end", r, 0, api.OK, api.OK)
	r.Num()
	tells(t, "behind the end", r, 0, api.ErrShort, api.ErrShort)
}

// P10.3: nil reads nothing.
func TestNilReader(t *testing.T) {
	var r *Reader
	tells(t, "nil", r, 0, api.ErrState, api.ErrState)
	silent(t, "nil", r)
}

// Readers of the same bytes have nothing to do with each other.
func TestReadersApart(t *testing.T) {
	a, b := Open("\x01\x02"), Open("\x01\x02")
	a.Num()
	a.Fail(api.ErrSum)
	tells(t, "the one", a, 1, api.ErrSum, api.ErrSum)
	tells(t, "the other", b, 2, api.OK, api.ErrForm)
	if b.Num() != 1 || b.Num() != 2 {
		t.Error("the other's reads")
	}
}

// P10.4: all that is written is read as it was.
func TestThereAndBack(t *testing.T) {
	w := &Writer{}
	for _, v := range numbers() {
		w.Num(v)
		w.Num(v >> 1)
		w.Int(int(v))
	}
	for _, v := range ints() {
		w.Int(v)
	}
	for _, s := range texts() {
		w.Text(s)
		w.Raw(s)
	}
	r := Open(w.Bytes())
	for _, v := range numbers() {
		if r.Num() != v || r.Upto(most) != int(v>>1) || r.Int() != int(v) {
			t.Fatalf("number %d, error %d", v, r.Err())
		}
	}
	for _, v := range ints() {
		if r.Int() != v {
			t.Fatalf("int %d, error %d", v, r.Err())
		}
	}
	for _, s := range texts() {
		if r.Text(len(s)) != s || r.Raw(len(s)) != s {
			t.Fatalf("text of %d bytes, error %d", len(s), r.Err())
		}
	}
	tells(t, "all that was written", r, 0, api.OK, api.OK)
}

// P10.4: what is read, of any bytes, is written in the same bytes.
func TestBackAndThere(t *testing.T) {
	again := map[string]func(r *Reader, w *Writer){
		"Num":  func(r *Reader, w *Writer) { w.Num(r.Num()) },
		"Upto": func(r *Reader, w *Writer) { w.Num(uint64(r.Upto(most))) },
		"Int":  func(r *Reader, w *Writer) { w.Int(r.Int()) },
		"Text": func(r *Reader, w *Writer) { w.Text(r.Text(most)) },
		"Raw":  func(r *Reader, w *Writer) { w.Raw(r.Raw(min(2, r.Left()))) },
	}
	right := 0
	for i := range 20_000 {
		s := ""
		for k := range int(mixed(i) % 14) {
			// Bytes that end a number, and such as do not, in all shares.
			s += string([]byte{byte(mixed(i*16+k)>>8)&0x7f | byte(mixed(i*16+k)%uint64(i%7+2)&1)<<7})
		}
		for call, act := range again {
			r, w := Open(s), &Writer{}
			act(r, w)
			if r.Err() != api.OK {
				continue
			}
			right++
			if took := s[:len(s)-r.Left()]; w.Bytes() != took {
				t.Fatalf("%s of %q: read, and written as %q", call, took, w.Bytes())
			}
		}
	}
	if right < 20_000 {
		t.Errorf("%d reads alone were right", right)
	}
}
