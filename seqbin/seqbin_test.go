package seqbin

import (
	"fmt"
	"locution/api"
	"locution/bitrow"
	"locution/elias"
	"locution/packrow"
	"locution/prefix"
	"locution/wire"
	"math"
	"slices"
	"strings"
	"testing"
)

const (
	least = math.MinInt
	most  = math.MaxInt
)

// mixed is a number that looks as if by chance; of each i it is the same each
// time.
func mixed(i int) uint64 {
	x := (uint64(i) + 1) * 0x9e3779b97f4a7c15
	x ^= x >> 31
	x *= 0xbf58476d1ce4e5b9
	return x ^ x>>29
}

// plainNum is a number's bytes.
func plainNum(v uint64) string {
	s := ""
	for v > 127 {
		s += string([]byte{byte(v%128 + 128)})
		v /= 128
	}
	return s + string([]byte{byte(v)})
}

// plainBits is n bits of v as noughts and ones, the lowest first.
func plainBits(v uint64, n int) string {
	var s strings.Builder
	for range n {
		s.WriteByte('0' + byte(v%2))
		v /= 2
	}
	return s.String()
}

// plainRow is the bytes of bits that are told as noughts and ones.
func plainRow(bits string) string {
	var s strings.Builder
	for len(bits) > 0 {
		n := min(len(bits), 8)
		b := 0
		for k := n - 1; k >= 0; k-- {
			b = b*2 + int(bits[k]-'0')
		}
		s.WriteByte(byte(b))
		bits = bits[n:]
	}
	return s.String()
}

// plainPack is the bytes of a pack.
func plainPack(width int, l []uint64) string {
	var bits strings.Builder
	for _, v := range l {
		bits.WriteString(plainBits(v, width))
	}
	return plainNum(uint64(width)) + plainNum(uint64(len(l))) + plainRow(bits.String())
}

// plainLow tries each width; the numbers are at most 2^40, so that nothing wraps
// round.
func plainLow(n, last int) int {
	w := 0
	for n > 0 && n<<(w+1) <= last {
		w++
	}
	return w
}

// plainParts is the bits of a sequence's low part and high part.
func plainParts(l []int) string {
	var low, high strings.Builder
	w := plainLow(len(l), l[len(l)-1])
	ahead := 0
	for _, v := range l {
		low.WriteString(plainBits(uint64(v), w))
		for ; ahead < v>>w; ahead++ {
			high.WriteByte('0')
		}
		high.WriteByte('1')
	}
	return low.String() + high.String()
}

// plainSeq is the bytes of a sequence.
func plainSeq(l []int) string {
	s := plainNum(uint64(len(l)))
	if len(l) == 0 {
		return s
	}
	return s + plainNum(uint64(l[len(l)-1])) + plainRow(plainParts(l))
}

// sumsOf lists the sums of these numbers.
func sumsOf(l []int) []int {
	sums := []int{0}
	for i, v := range l {
		sums = append(sums, sums[i]+v)
	}
	return sums
}

// rowOf is the row of these bits.
func rowOf(bits string) *bitrow.Row {
	r := bitrow.New()
	for _, b := range bits {
		r.Add(uint64(b-'0'), 1)
	}
	return r
}

func packOf(t *testing.T, width int, l []uint64) *packrow.Pack {
	t.Helper()
	p, e := packrow.New(width, l)
	if e != api.OK {
		t.Fatalf("the pack of %d numbers of the width %d: error %d", len(l), width, e)
	}
	return p
}

func seqOf(t *testing.T, l []int) *elias.Seq {
	t.Helper()
	s, e := elias.New(l)
	if e != api.OK {
		t.Fatalf("the sequence of %d numbers: error %d", len(l), e)
	}
	return s
}

func prefixOf(t *testing.T, l []int) *prefix.Seq {
	t.Helper()
	s, e := prefix.New(l)
	if e != api.OK {
		t.Fatalf("the sums of %d numbers: error %d", len(l), e)
	}
	return s
}

// put is what one act writes.
func put(act func(w *wire.Writer)) string {
	w := &wire.Writer{}
	act(w)
	return w.Bytes()
}

func putRow(r *bitrow.Row) string    { return put(func(w *wire.Writer) { PutRow(w, r) }) }
func putPack(p *packrow.Pack) string { return put(func(w *wire.Writer) { PutPack(w, p) }) }
func putSeq(s *elias.Seq) string     { return put(func(w *wire.Writer) { PutSeq(w, s) }) }
func putSums(s *prefix.Seq) string   { return put(func(w *wire.Writer) { PutSums(w, s) }) }

// numsOf lists what a going over tells behind the places.
func numsOf(s *elias.Seq) []int {
	var l []int
	for _, v := range s.All() {
		l = append(l, v)
	}
	return l
}

func sumNumsOf(s *prefix.Seq) []int {
	var l []int
	for _, v := range s.All() {
		l = append(l, v)
	}
	return l
}

func packNumsOf(p *packrow.Pack) []uint64 {
	var l []uint64
	for _, v := range p.All() {
		l = append(l, v)
	}
	return l
}

// state is all that a reader tells.
func state(r *wire.Reader) string { return fmt.Sprintf("left %d, error %d", r.Left(), r.Err()) }

// tells fails, if the reader tells something else.
func tells(t *testing.T, what string, r *wire.Reader, left int, e api.Errno) {
	t.Helper()
	if got, want := state(r), fmt.Sprintf("left %d, error %d", left, e); got != want {
		t.Errorf("%s: %s, not %s", what, got, want)
	}
}

// getter tells what was got, as the bytes in which it is put again, and whether
// it was something at all.
type getter func(r *wire.Reader) (string, bool)

// whole are the calls that get something of which the bytes tell how long it is.
func whole() map[string]getter {
	return map[string]getter{
		"GetPack": func(r *wire.Reader) (string, bool) { p := GetPack(r); return putPack(p), p != nil },
		"GetSeq":  func(r *wire.Reader) (string, bool) { s := GetSeq(r); return putSeq(s), s != nil },
		"GetSums": func(r *wire.Reader) (string, bool) { s := GetSums(r); return putSums(s), s != nil },
	}
}

// getters are all calls that get something.
func getters() map[string]getter {
	l := whole()
	for _, n := range []int{least, -1, 0, 1, 7, 8, 9, 16, 64, 65, 1000, most} {
		l[fmt.Sprintf("GetRow of %d bits", n)] = func(r *wire.Reader) (string, bool) {
			row := GetRow(r, n)
			return putRow(row), row != nil
		}
	}
	return l
}

// silent fails, if any get behind an error tells, takes or changes something.
func silent(t *testing.T, what string, r *wire.Reader) {
	t.Helper()
	before := state(r)
	for call, get := range getters() {
		if _, ok := get(r); ok {
			t.Errorf("%s: %s tells something", what, call)
		}
		if got := state(r); got != before {
			t.Errorf("%s: behind %s %s, not %s", what, call, got, before)
		}
	}
}

// wrong fails, if what is got of s is anything, or the reader tells anything but
// so many bytes left and this error.
func wrong(t *testing.T, call, s string, left int, e api.Errno) {
	t.Helper()
	r := wire.Open(s)
	if _, ok := getters()[call](r); ok {
		t.Errorf("%s of %q tells something", call, s)
	}
	what := fmt.Sprintf("%s of %q", call, s)
	tells(t, what, r, left, e)
	silent(t, what, r)
}

// rowBits are bits of rows of all lengths about which bytes and words end.
func rowBits() []string {
	var l []string
	lengths := []int{0, 1, 2, 6, 7, 8, 9, 15, 16, 17, 31, 33, 55, 56, 57, 63, 64, 65, 71, 72, 73, 127, 128, 129, 200, 511, 512, 513, 1000}
	for _, n := range lengths {
		var chance strings.Builder
		for i := range n {
			chance.WriteByte('0' + byte(mixed(i+n)%2))
		}
		l = append(l, strings.Repeat("0", n), strings.Repeat("1", n), chance.String())
		if n > 1 {
			l = append(l, "1"+strings.Repeat("0", n-1), strings.Repeat("0", n-1)+"1")
		}
	}
	return l
}

// packs are lists of numbers of each width.
func packs() map[int][][]uint64 {
	all := map[int][][]uint64{}
	for width := range 65 {
		for _, n := range []int{0, 1, 2, 3, 7, 8, 9, 63, 64, 65, 130} {
			noughts, greatest, chance := make([]uint64, n), make([]uint64, n), make([]uint64, n)
			for i := range n {
				greatest[i] = uint64(math.MaxUint64) >> (64 - width)
				chance[i] = mixed(i+n*width) & greatest[i]
			}
			all[width] = append(all[width], noughts, greatest, chance)
		}
	}
	return all
}

// seqs are lists of numbers that do not fall, of all kinds.
func seqs() [][]int {
	l := [][]int{nil, {0}, {1}, {2}, {63}, {64}, {api.MaxValue - 1}, {api.MaxValue},
		{0, 0}, {0, 1}, {1, 1}, {0, api.MaxValue}, {api.MaxValue, api.MaxValue},
		{3, 4, 7}, {3, 4, 7, 13, 14, 15, 21, 43}, {0, 0, 0, api.MaxValue},
		{api.MaxValue - 2, api.MaxValue - 1, api.MaxValue}}
	for _, n := range []int{5, 8, 9, 63, 64, 65, 127, 128, 129, 300} {
		for _, bound := range []int{0, 1, 2, 3, 10, 64, 1000, 1 << 20, 1 << 31} {
			gaps, alike := make([]int, n), make([]int, n)
			v := 0
			for i := range n {
				v += int(mixed(i*n+bound) % uint64(bound+1))
				gaps[i], alike[i] = v, bound
			}
			// The last one far off: the high part has many noughts in a row.
			far := slices.Clone(gaps)
			far[n-1] = api.MaxValue
			l = append(l, gaps, alike, far)
		}
	}
	return l
}

// sumLists are lists of numbers in any order.
func sumLists() [][]int {
	l := [][]int{nil, {0}, {1}, {2, 0}, {2, 0, 3}, {api.MaxValue}, {0, api.MaxValue, 0},
		{api.MaxValue - 1, 1}, {1, api.MaxValue - 1}, make([]int, 7), make([]int, 8), make([]int, 300)}
	for _, n := range []int{1, 2, 9, 64, 65, 300} {
		for _, bound := range []uint64{1, 2, 10, 1 << 16, 1 << 31} {
			numbers := make([]int, n)
			for i := range n {
				numbers[i] = int(mixed(i*n+int(bound)) % bound)
			}
			l = append(l, numbers)
		}
	}
	return l
}

func TestExample(t *testing.T) {
	if got := putSeq(seqOf(t, []int{3, 4, 7})); got != "\x03\x07\x55\x01" {
		t.Errorf("3, 4, 7: %q", got)
	}
	if got := plainParts([]int{3, 4, 7}); got != "101010101" {
		t.Errorf("the bits of 3, 4, 7: %s", got)
	}
	if got := putSums(prefixOf(t, nil)); got != "\x01\x00\x01" {
		t.Errorf("sums of no number: %q", got)
	}
	r := wire.Open("\x03\x07\x55\x01\x01\x00\x01")
	if got := numsOf(GetSeq(r)); !slices.Equal(got, []int{3, 4, 7}) {
		t.Errorf("got %v", got)
	}
	if s := GetSums(r); s == nil || s.Len() != 0 {
		t.Errorf("got sums of %d numbers", s.Len())
	}
	tells(t, "behind both", r, 0, api.OK)
}

// P11.1: rows.
func TestRowsPut(t *testing.T) {
	for _, bits := range rowBits() {
		if got, want := putRow(rowOf(bits)), plainRow(bits); got != want {
			t.Errorf("%s: %q, not %q", bits, got, want)
		}
	}
	for n, want := range map[int]string{0: "", 1: "\x01", 7: "\x7f", 8: "\xff", 9: "\xff\x01",
		63: "\xff\xff\xff\xff\xff\xff\xff\x7f", 64: "\xff\xff\xff\xff\xff\xff\xff\xff",
		65: "\xff\xff\xff\xff\xff\xff\xff\xff\x01"} {
		if got := putRow(rowOf(strings.Repeat("1", n))); got != want {
			t.Errorf("%d ones: %q, not %q", n, got, want)
		}
	}
}

// P11.1: packs.
func TestPacksPut(t *testing.T) {
	for width, lists := range packs() {
		for _, l := range lists {
			if got, want := putPack(packOf(t, width, l)), plainPack(width, l); got != want {
				t.Errorf("width %d, %v: %q, not %q", width, l, got, want)
			}
		}
	}
	if got := putPack(packrow.Fit([]uint64{1, 5, 6})); got != "\x03\x03\xa9\x01" {
		t.Errorf("1, 5, 6: %q", got)
	}
	if got := putPack(packOf(t, 64, nil)); got != "\x40\x00" {
		t.Errorf("no numbers of the width 64: %q", got)
	}
	if got := putPack(packOf(t, 0, make([]uint64, 300))); got != "\x00\xac\x02" {
		t.Errorf("300 numbers of the width 0: %q", got)
	}
}

// P11.1: sequences.
func TestSeqsPut(t *testing.T) {
	for _, l := range seqs() {
		if got, want := putSeq(seqOf(t, l)), plainSeq(l); got != want {
			t.Errorf("%v: %q, not %q", l, got, want)
		}
	}
	if got := putSeq(seqOf(t, nil)); got != "\x00" {
		t.Errorf("no numbers: %q", got)
	}
}

// P11.1: sums.
func TestSumsPut(t *testing.T) {
	for _, l := range sumLists() {
		if got, want := putSums(prefixOf(t, l)), plainSeq(sumsOf(l)); got != want {
			t.Errorf("%v: %q, not %q", l, got, want)
		}
	}
	if got := putSums(prefixOf(t, []int{0, 0, 0})); got != "\x04\x00\x0f" {
		t.Errorf("noughts alone: %q", got)
	}
}

// P11.1: of nil there are the bytes of one without bits, or numbers.
func TestNilPut(t *testing.T) {
	if got := putRow(nil); got != "" {
		t.Errorf("a nil row: %q", got)
	}
	if got := putPack(nil); got != "\x00\x00" {
		t.Errorf("a nil pack: %q", got)
	}
	if got := putSeq(nil); got != "\x00" {
		t.Errorf("a nil sequence: %q", got)
	}
	if got := putSums(nil); got != "\x01\x00\x01" {
		t.Errorf("nil sums: %q", got)
	}
}

// P11.1: to a nil Writer nothing is written.
func TestNilWriter(t *testing.T) {
	var w *wire.Writer
	PutRow(w, nil)
	PutRow(w, rowOf("101"))
	PutPack(w, nil)
	PutPack(w, packrow.Fit([]uint64{1, 5, 6}))
	PutSeq(w, nil)
	PutSeq(w, seqOf(t, []int{3, 4, 7}))
	PutSums(w, nil)
	PutSums(w, prefixOf(t, []int{2, 0, 3}))
	if w.Bytes() != "" {
		t.Errorf("a nil Writer has %q", w.Bytes())
	}
}

// P11.1: each call writes behind what was written, and changes nothing of what
// it puts.
func TestPutBehind(t *testing.T) {
	w := &wire.Writer{}
	row, pack := rowOf("1011"), packrow.Fit([]uint64{1, 5, 6})
	seq, sums := seqOf(t, []int{3, 4, 7}), prefixOf(t, []int{2, 0})
	want := ""
	for i := range 20 {
		w.Num(uint64(i))
		PutRow(w, row)
		PutPack(w, pack)
		PutSeq(w, seq)
		PutSums(w, sums)
		want += plainNum(uint64(i)) + "\x0d" + "\x03\x03\xa9\x01" + "\x03\x07\x55\x01" + "\x03\x02\x19"
		if w.Bytes() != want {
			t.Fatalf("round %d: %q, not %q", i, w.Bytes(), want)
		}
	}
	if !bitrow.Same(row, rowOf("1011")) || !slices.Equal(packNumsOf(pack), []uint64{1, 5, 6}) ||
		!slices.Equal(numsOf(seq), []int{3, 4, 7}) || !slices.Equal(sumNumsOf(sums), []int{2, 0}) {
		t.Error("what was put is no more what it was")
	}
}

// P11.2, P11.4: rows, with bytes behind them and without, and each byte missing.
func TestRowsGot(t *testing.T) {
	for _, bits := range rowBits() {
		s := plainRow(bits)
		for _, behind := range []string{"", "\x00", "\xff", "\x80\x80 more"} {
			r := wire.Open(s + behind)
			got := GetRow(r, len(bits))
			if got == nil || !bitrow.Same(got, rowOf(bits)) || putRow(got) != s {
				t.Errorf("%s: got %q", bits, putRow(got))
			}
			tells(t, bits, r, len(behind), api.OK)
		}
		for n := range len(s) {
			r := wire.Open(s[:n])
			if GetRow(r, len(bits)) != nil {
				t.Errorf("%d bytes of %s: a row", n, bits)
			}
			tells(t, bits, r, n, api.ErrShort)
			silent(t, bits, r)
		}
	}
}

// P11.2: counts of bits that are below 0 count as 0, and there may be more bits
// asked for than any bytes have.
func TestRowCounts(t *testing.T) {
	for _, n := range []int{least, least + 1, -64, -8, -1, 0} {
		for _, s := range []string{"", "\xff\xff"} {
			r := wire.Open(s)
			if row := GetRow(r, n); row == nil || row.Len() != 0 {
				t.Errorf("GetRow of %d bits: %d bits, nil: %v", n, row.Len(), row == nil)
			}
			tells(t, fmt.Sprintf("GetRow of %d bits", n), r, len(s), api.OK)
		}
	}
	for _, n := range []int{most, most - 1, most - 6, most - 7, most - 8, most - 63, most - 64, 1 << 62, 1 << 40, 33} {
		for _, s := range []string{"", "\x00", "\x00\x00\x00\x00"} {
			r := wire.Open(s)
			if GetRow(r, n) != nil {
				t.Errorf("GetRow of %d bits: a row", n)
			}
			tells(t, fmt.Sprintf("GetRow of %d bits", n), r, len(s), api.ErrShort)
		}
	}
}

// P11.2, P11.3: a bit above the last one is one: the bytes are taken.
func TestRowForm(t *testing.T) {
	for n := 1; n < 140; n++ {
		size := (n + 7) / 8
		for above := n; above < size*8; above++ {
			bytes := make([]byte, size)
			bytes[above/8] |= 1 << (above % 8)
			r := wire.Open(string(bytes) + "xyz")
			if GetRow(r, n) != nil {
				t.Errorf("%d bits with the bit %d: a row", n, above)
			}
			what := fmt.Sprintf("%d bits with the bit %d", n, above)
			tells(t, what, r, 3, api.ErrForm)
			silent(t, what, r)
		}
	}
}

// P11.2: where a byte is missing, and a bit above the last one is one, the bytes
// are told.
func TestRowShortAheadOfForm(t *testing.T) {
	r := wire.Open("\xff")
	if GetRow(r, 9) != nil {
		t.Error("a row")
	}
	tells(t, "nine bits of one byte", r, 1, api.ErrShort)
}

// P11.2, P11.4: packs.
func TestPacksGot(t *testing.T) {
	for width, lists := range packs() {
		for _, l := range lists {
			s := plainPack(width, l)
			r := wire.Open(s + "\x80behind")
			p := GetPack(r)
			if p == nil || p.Width() != width || !slices.Equal(packNumsOf(p), l) || putPack(p) != s {
				t.Errorf("width %d, %v: got width %d, %v", width, l, p.Width(), packNumsOf(p))
			}
			tells(t, fmt.Sprintf("width %d, %d numbers", width, len(l)), r, 7, api.OK)
		}
	}
}

// P11.2, P11.3: packs that are wrong: by the width, by how many numbers there
// are, by the row.
func TestPacksWrong(t *testing.T) {
	for _, c := range []struct {
		s    string
		left int
		e    api.Errno
	}{
		{"", 0, api.ErrShort},
		{"\x80", 1, api.ErrShort},
		{"\x83\x00\x03\xa9\x01", 5, api.ErrForm},
		{"\x41\x00", 2, api.ErrRange},
		{"\x41", 1, api.ErrRange},
		{"\x41\x81\x80\x40", 4, api.ErrRange},
		{"\xff\xff\xff\xff\xff\xff\xff\xff\xff\x01\x00", 11, api.ErrRange},
		{"\x40", 0, api.ErrShort},
		{"\x40\xff", 1, api.ErrShort},
		{"\x40\x80\x00", 2, api.ErrForm},
		{"\x00\x81\x80\x40", 3, api.ErrRange},
		{"\x40\x81\x80\x40", 3, api.ErrRange},
		{"\x01\xff\xff\xff\xff\xff\xff\xff\xff\xff\x01", 10, api.ErrRange},
		{"\x40\x80\x80\x40", 0, api.ErrShort},
		{"\x40\x80\x80\x40abc", 3, api.ErrShort},
		{"\x03\x03", 0, api.ErrShort},
		{"\x03\x03\xa9", 1, api.ErrShort},
		{"\x03\x03\xa9\x03", 0, api.ErrForm},
		{"\x03\x03\xa9\x81\x00", 1, api.ErrForm},
		{"\x01\x01\x02", 0, api.ErrForm},
		{"\x01\x07\x80xy", 2, api.ErrForm},
	} {
		wrong(t, "GetPack", c.s, c.left, c.e)
	}
}

// P11.2, P11.4: packs of the most numbers, and of one more, which are put but
// not got.
func TestPacksMost(t *testing.T) {
	for _, width := range []int{0, 1, 63, 64} {
		l := make([]uint64, MaxLen+1)
		for i := range l {
			l[i] = mixed(i) >> (64 - width)
		}
		s := putPack(packOf(t, width, l[:MaxLen]))
		r := wire.Open(s)
		p := GetPack(r)
		if p == nil || p.Width() != width || !slices.Equal(packNumsOf(p), l[:MaxLen]) || putPack(p) != s {
			t.Errorf("the most numbers of the width %d are not got as they were", width)
		}
		tells(t, "the most numbers", r, 0, api.OK)
		s = putPack(packOf(t, width, l))
		r = wire.Open(s)
		if GetPack(r) != nil {
			t.Errorf("one number more of the width %d: a pack", width)
		}
		tells(t, "one number more", r, len(s)-1, api.ErrRange)
	}
}

// P11.2, P11.4: sequences.
func TestSeqsGot(t *testing.T) {
	for _, l := range seqs() {
		s := plainSeq(l)
		r := wire.Open(s + "\x80behind")
		q := GetSeq(r)
		if q == nil || !slices.Equal(numsOf(q), l) || putSeq(q) != s {
			t.Errorf("%v: got %v", l, numsOf(q))
		}
		tells(t, fmt.Sprint(l), r, 7, api.OK)
	}
}

// P11.2, P11.3: sequences that are wrong.
func TestSeqsWrong(t *testing.T) {
	top := plainNum(api.MaxValue)
	for _, c := range []struct {
		s    string
		left int
		e    api.Errno
	}{
		{"", 0, api.ErrShort},
		{"\x80", 1, api.ErrShort},
		{"\x80\x00", 2, api.ErrForm},
		{"\x81\x80\x40", 3, api.ErrRange},
		{"\x81\x80\x40\x00\x01", 5, api.ErrRange},
		{"\xff\xff\xff\xff\xff\xff\xff\xff\xff\x01", 10, api.ErrRange},
		{"\x01", 0, api.ErrShort},
		{"\x01\x85", 1, api.ErrShort},
		{"\x01\x85\x00\x01", 3, api.ErrForm},
		{"\x01" + plainNum(api.MaxValue+1) + "\x00\x00\x00\x00\x00\x00", 12, api.ErrRange},
		{"\x01\xff\xff\xff\xff\xff\xff\xff\xff\xff\x01", 10, api.ErrRange},
		{"\x80\x80\x40" + plainNum(api.MaxValue+1), 6, api.ErrRange},
		{"\x80\x80\x40" + top, 0, api.ErrShort},
		{"\x01\x00", 0, api.ErrShort},
		{"\x03\x07\x55", 1, api.ErrShort},
		{"\x03\x07\x55\x03", 0, api.ErrForm},
		{"\x03\x07\x55\x81xyz", 3, api.ErrForm},
		{"\x01\x00\x00", 0, api.ErrForm},
		{"\x01\x00\x03", 0, api.ErrForm},
		{"\x01\x00\x02", 0, api.ErrForm},
		// The last number's low bits are others: 5 or 6 told, 7 or 4 there.
		{"\x01\x05" + plainRow("11"+"01"), 0, api.ErrForm},
		{"\x01\x06" + plainRow("00"+"01"), 0, api.ErrForm},
		{"\x03\x07" + plainRow("100"+"010101"), 0, api.ErrForm},
		// Too few ones, none at all, too many, and just as many with none at the end.
		{"\x03\x07" + plainRow("101"+"010001"), 0, api.ErrForm},
		{"\x03\x07" + plainRow("101"+"000000"), 0, api.ErrForm},
		{"\x03\x07" + plainRow("111"+"000000"), 0, api.ErrForm},
		{"\x03\x07" + plainRow("111"+"000001"), 0, api.ErrForm},
		{"\x03\x07" + plainRow("101"+"110101"), 0, api.ErrForm},
		{"\x03\x07" + plainRow("101"+"111111"), 0, api.ErrForm},
		{"\x03\x07" + plainRow("101"+"011010"), 0, api.ErrForm},
		// Numbers that fall: 3, 2, 7 and 3, 7, 6.
		{"\x03\x07" + plainRow("101"+"011001"), 0, api.ErrForm},
		{"\x03\x06" + plainRow("110"+"010011"), 0, api.ErrForm},
		// A number above the greatest one, ahead of the greatest.
		{"\x02" + top + plainRow(plainBits(1, 39)+plainBits(0, 39)+"0011"), 0, api.ErrForm},
	} {
		wrong(t, "GetSeq", c.s, c.left, c.e)
		wrong(t, "GetSums", c.s, c.left, c.e)
	}
}

// P11.2, P11.4: sequences of the most numbers, and of one more, which are put but
// not got.
func TestSeqsMost(t *testing.T) {
	for name, at := range map[string]func(i int) int{
		"noughts":         func(i int) int { return 0 },
		"the greatest":    func(i int) int { return api.MaxValue },
		"in a row":        func(i int) int { return i },
		"wide":            func(i int) int { return i << 20 },
		"wide, by chance": func(i int) int { return max(0, i<<20-int(mixed(i)>>44)) },
		"at the end": func(i int) int {
			if i < MaxLen-1 {
				return 0
			}
			return api.MaxValue
		},
	} {
		l := make([]int, MaxLen+1)
		for i := range l {
			l[i] = at(i)
		}
		s := putSeq(seqOf(t, l[:MaxLen]))
		r := wire.Open(s + "x")
		q := GetSeq(r)
		if q == nil || !slices.Equal(numsOf(q), l[:MaxLen]) || putSeq(q) != s {
			t.Errorf("%s: the most numbers are not got as they were", name)
		}
		tells(t, name, r, 1, api.OK)
		s = putSeq(seqOf(t, l))
		r = wire.Open(s)
		if GetSeq(r) != nil {
			t.Errorf("%s: one number more: a sequence", name)
		}
		tells(t, name, r, len(s), api.ErrRange)
	}
}

// lists calls act with each list of n numbers that do not fall, the last one
// being last.
func lists(n, last int, act func(l []int)) {
	l := make([]int, n)
	var fill func(i, from int)
	fill = func(i, from int) {
		if i == n-1 {
			l[i] = last
			act(l)
			return
		}
		for v := from; v <= last; v++ {
			l[i] = v
			fill(i+1, v)
		}
	}
	fill(0, 0)
}

// P11.2, P11.4: of few numbers and a small last one, all bytes of the length that
// is wanted: those of sequences are got, and no others.
func TestAllSmallSeqs(t *testing.T) {
	for n := 1; n <= 5; n++ {
		for last := range 11 {
			may := map[string][]int{}
			lists(n, last, func(l []int) { may[plainSeq(l)] = slices.Clone(l) })
			w := plainLow(n, last)
			bytes := (n*w + n + last>>w + 7) / 8
			for x := range 1 << (8 * bytes) {
				s := plainNum(uint64(n)) + plainNum(uint64(last)) + plainRow(plainBits(uint64(x), 8*bytes))
				l := may[s]
				r, z := wire.Open(s), wire.Open(s)
				q, sums := GetSeq(r), GetSums(z)
				if !slices.Equal(numsOf(q), l) || (q == nil) != (l == nil) || r.Left() != 0 || (r.Err() == api.ErrForm) != (l == nil) {
					t.Fatalf("%q: got %v, not %v: %s", s, numsOf(q), l, state(r))
				}
				good := l != nil && l[0] == 0
				if (sums != nil) != good || z.Left() != 0 || (z.Err() == api.ErrForm) == good {
					t.Fatalf("%q as sums: nil is %v: %s", s, sums == nil, state(z))
				}
				if good && !slices.Equal(sumsOf(sumNumsOf(sums)), l) {
					t.Fatalf("%q as sums: got %v, not %v", s, sumsOf(sumNumsOf(sums)), l)
				}
			}
		}
	}
}

// P11.2, P11.4: sums.
func TestSumsGot(t *testing.T) {
	for _, l := range sumLists() {
		s := plainSeq(sumsOf(l))
		r := wire.Open(s + "\x80behind")
		q := GetSums(r)
		if q == nil || !slices.Equal(sumNumsOf(q), l) || q.Len() != len(l) || putSums(q) != s {
			t.Errorf("%v: got %v", l, sumNumsOf(q))
		}
		tells(t, fmt.Sprint(l), r, 7, api.OK)
	}
}

// P11.2, P11.3: sequences that are no sums: without numbers, or with a first one
// that is not 0.
func TestSumsWrong(t *testing.T) {
	wrong(t, "GetSums", "\x00", 0, api.ErrForm)
	wrong(t, "GetSums", "\x00xyz", 3, api.ErrForm)
	for _, l := range [][]int{{1}, {api.MaxValue}, {1, 1}, {3, 4, 7}, {api.MaxValue, api.MaxValue}} {
		s := plainSeq(l)
		wrong(t, "GetSums", s, 0, api.ErrForm)
		wrong(t, "GetSums", s+"xyz", 3, api.ErrForm)
		if r := wire.Open(s); !slices.Equal(numsOf(GetSeq(r)), l) {
			t.Errorf("%v is not got as a sequence", l)
		}
	}
}

// P11.2, P11.4: sums are one more than the numbers: of the most sums there is one
// number fewer.
func TestSumsMost(t *testing.T) {
	for name, v := range map[string]int{"noughts": 0, "ones": 1, "wide": 1 << 20} {
		l := slices.Repeat([]int{v}, MaxLen)
		s := putSums(prefixOf(t, l[1:]))
		r := wire.Open(s + "x")
		q := GetSums(r)
		if q == nil || !slices.Equal(sumNumsOf(q), l[1:]) || putSums(q) != s {
			t.Errorf("%s: the most sums are not got as they were", name)
		}
		tells(t, name, r, 1, api.OK)
		s = putSums(prefixOf(t, l))
		r = wire.Open(s)
		if GetSums(r) != nil {
			t.Errorf("%s: one sum more is got", name)
		}
		tells(t, name, r, len(s), api.ErrRange)
	}
}

// P11.3: of a nil Reader nothing is got.
func TestNilReader(t *testing.T) {
	for call, get := range getters() {
		if _, ok := get(nil); ok {
			t.Errorf("%s of a nil Reader tells something", call)
		}
	}
}

// P11.3: behind an error nothing is got and taken, and the error stays, whoever
// told it.
func TestErrorAhead(t *testing.T) {
	all := "\x00\x03\x07\x55\x01\x03\x03\xa9\x01\x01\x00\x01"
	for _, e := range []api.Errno{api.ErrArg, api.ErrShort, api.ErrForm, api.ErrSum, api.ErrRange, api.ErrLimit} {
		for _, s := range []string{"", "\x00", all, all[1:], all[5:], all[9:], "\x41", "\x80\x00"} {
			r := wire.Open(s)
			r.Fail(e)
			silent(t, fmt.Sprintf("%q behind the error %d", s, e), r)
			tells(t, fmt.Sprintf("%q behind the error %d", s, e), r, len(s), e)
		}
	}
	r := wire.Open(all)
	r.Raw(-1)
	silent(t, "behind a wrong read", r)
	tells(t, "behind a wrong read", r, len(all), api.ErrArg)
}

// P11.3: what was got ahead of an error stays as it was, and is taken.
func TestGotAheadOfError(t *testing.T) {
	first := plainSeq([]int{3, 4, 7}) + plainPack(3, []uint64{1, 5, 6}) + plainSeq(sumsOf([]int{2, 0})) + plainRow("1011")
	for s, want := range map[string]struct {
		left int
		e    api.Errno
	}{"": {0, api.ErrShort}, "\x03\x07": {0, api.ErrShort}, "\x01\x00\x00rest": {4, api.ErrForm}, "\x81\x80\x40": {3, api.ErrRange}} {
		r := wire.Open(first + s)
		seq, pack, sums, row := GetSeq(r), GetPack(r), GetSums(r), GetRow(r, 4)
		tells(t, "ahead of the error", r, len(s), api.OK)
		if GetSeq(r) != nil {
			t.Errorf("%q: a sequence", s)
		}
		tells(t, fmt.Sprintf("%q", s), r, want.left, want.e)
		if !slices.Equal(numsOf(seq), []int{3, 4, 7}) || !slices.Equal(packNumsOf(pack), []uint64{1, 5, 6}) ||
			!slices.Equal(sumNumsOf(sums), []int{2, 0}) || !bitrow.Same(row, rowOf("1011")) {
			t.Errorf("%q: what was got ahead of it is another thing", s)
		}
	}
}

// samples are bytes of packs, sequences and sums of some kinds.
func samples() []string {
	return []string{"\x00", "\x00\x00", "\x40\x00", "\x01\x00\x01",
		plainPack(3, []uint64{1, 5, 6}), plainPack(64, []uint64{math.MaxUint64, 0, 7}), plainPack(0, make([]uint64, 9)),
		plainSeq([]int{3, 4, 7}), plainSeq([]int{3, 4, 7, 13, 14, 15, 21, 43}), plainSeq([]int{0, 0, 0, 0, 1, 1}),
		plainSeq([]int{0, 5, 5, 5, 400, 90000, api.MaxValue}), plainSeq(sumsOf([]int{2, 0, 3, 0, 0, 60}))}
}

// holds fails, if what is got of s is not put again in the bytes that were taken,
// or what is not got leaves no error of the chapter.
func holds(t *testing.T, call string, get getter, s string) {
	t.Helper()
	r := wire.Open(s)
	again, ok := get(r)
	taken := s[:len(s)-r.Left()]
	if ok && (r.Err() != api.OK || again != taken) {
		t.Fatalf("%s of %q: put again %q, of %q: %s", call, s, again, taken, state(r))
	}
	if !ok && r.Err() != api.ErrShort && r.Err() != api.ErrForm && r.Err() != api.ErrRange {
		t.Fatalf("%s of %q: %s", call, s, state(r))
	}
}

// P11.4: bytes of all kinds, as they are, cut anywhere, with any one or two bits
// turned: whatever is got is put in the same bytes.
func TestGotIsPutAgain(t *testing.T) {
	for _, s := range samples() {
		for call, get := range whole() {
			for n := range len(s) + 1 {
				holds(t, call, get, s[:n])
			}
			for i := range 8 * len(s) {
				for k := range i + 1 {
					b := []byte(s)
					b[i/8] ^= 1 << (i % 8)
					if k < i {
						b[k/8] ^= 1 << (k % 8)
					}
					holds(t, call, get, string(b))
				}
			}
		}
	}
}

// P11.4: bytes by chance, of which the first ones are small, so that there is
// something to be got.
func TestChanceIsPutAgain(t *testing.T) {
	for i := range 30000 {
		b := make([]byte, 2+i%9)
		for k := range b {
			b[k] = byte(mixed(i*16+k) >> 20)
		}
		b[0] %= 6
		b[1] %= 24
		for call, get := range whole() {
			holds(t, call, get, string(b))
		}
	}
}

// P11.4: things of all kinds one behind the other are got one by one as they
// were.
func TestPutAndGot(t *testing.T) {
	w := &wire.Writer{}
	rows, nums, sums := rowBits(), seqs(), sumLists()
	rounds := min(len(rows), len(nums), len(sums))
	for i := range rounds {
		PutRow(w, rowOf(rows[i]))
		PutSeq(w, seqOf(t, nums[i]))
		PutPack(w, packOf(t, 64, packs()[64][i%30]))
		PutSums(w, prefixOf(t, sums[i]))
	}
	r := wire.Open(w.Bytes())
	for i := range rounds {
		if row := GetRow(r, len(rows[i])); row == nil || !bitrow.Same(row, rowOf(rows[i])) {
			t.Fatalf("round %d: the row is another one", i)
		}
		if s := GetSeq(r); s == nil || !slices.Equal(numsOf(s), nums[i]) {
			t.Fatalf("round %d: the sequence is another one", i)
		}
		if p := GetPack(r); p == nil || !slices.Equal(packNumsOf(p), packs()[64][i%30]) {
			t.Fatalf("round %d: the pack is another one", i)
		}
		if s := GetSums(r); s == nil || !slices.Equal(sumNumsOf(s), sums[i]) {
			t.Fatalf("round %d: the sums are others", i)
		}
	}
	if r.End() != api.OK {
		t.Errorf("at the end: %s", state(r))
	}
}
