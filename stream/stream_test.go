package stream

import (
	"fmt"
	"locution/api"
	"locution/bitrow"
	"math"
	"strings"
	"testing"
)

const most = math.MaxUint64

// The kinds of codes.
const (
	fixed = iota
	unary
	gamma
	rice
)

// item is one code: its kind, its number, and its n or k where it has one.
type item struct {
	kind int
	v    uint64
	n    int
}

func (c item) String() string {
	return fmt.Sprintf("%s %d %d", [...]string{"Fixed", "Unary", "Gamma", "Rice"}[c.kind], c.v, c.n)
}

// write writes a code; a unary's number is an int.
func (c item) write(w *Writer) api.Errno {
	switch c.kind {
	case fixed:
		return w.Fixed(c.v, c.n)
	case unary:
		return w.Unary(int(c.v))
	case gamma:
		return w.Gamma(c.v)
	}
	return w.Rice(c.v, c.n)
}

// read reads a code of that kind.
func (c item) read(r *Reader) uint64 {
	switch c.kind {
	case fixed:
		return r.Fixed(c.n)
	case unary:
		return uint64(r.Unary())
	case gamma:
		return r.Gamma()
	}
	return r.Rice(c.n)
}

// lowest is v's n lowest bits, the lowest first, told the plainest way.
func lowest(v uint64, n int) string {
	var s strings.Builder
	for range n {
		s.WriteByte('0' + byte(v%2))
		v /= 2
	}
	return s.String()
}

// noughts is n noughts.
func noughts(n int) string { return strings.Repeat("0", n) }

// highest is the place of v's highest one.
func highest(v uint64) int {
	k := 0
	for v > 1 {
		v /= 2
		k++
	}
	return k
}

// bits is the code's bits, as the chapter's head tells them.
func (c item) bits() string {
	switch c.kind {
	case fixed:
		return lowest(c.v, c.n)
	case unary:
		return noughts(int(c.v)) + "1"
	case gamma:
		k := highest(c.v)
		return noughts(k) + "1" + lowest(c.v, k)
	}
	high := c.v
	for range c.n {
		high /= 2
	}
	return noughts(int(high)) + "1" + lowest(c.v, c.n)
}

// rowOf is the row with these bits, added one by one.
func rowOf(bits string) *bitrow.Row {
	r := bitrow.New()
	for i := range len(bits) {
		r.Add(uint64(bits[i]-'0'), 1)
	}
	return r
}

// told is the bits of a row.
func told(r *bitrow.Row) string {
	var s strings.Builder
	for i := range r.Len() {
		if r.Bit(i) {
			s.WriteByte('1')
		} else {
			s.WriteByte('0')
		}
	}
	return s.String()
}

// plain is a reader that looks at one bit at a time, of what the chapter says.
type plain struct {
	bits string
	at   int
	err  api.Errno
}

// stop is how a plain read ends that is wrong.
type stop api.Errno

// bit takes one bit.
func (p *plain) bit() byte {
	if p.at == len(p.bits) {
		panic(stop(api.ErrShort))
	}
	p.at++
	return p.bits[p.at-1]
}

func (p *plain) unary(limit int) int {
	n := 0
	for p.bit() == '0' {
		n++
		if n > limit {
			panic(stop(api.ErrForm))
		}
	}
	return n
}

func (p *plain) fixed(n int) uint64 {
	v := uint64(0)
	for i := range n {
		if p.bit() == '1' {
			v |= 1 << i
		}
	}
	return v
}

func (p *plain) number(c item) uint64 {
	switch c.kind {
	case fixed:
		if c.n < 0 || c.n > 64 {
			panic(stop(api.ErrArg))
		}
		return p.fixed(c.n)
	case unary:
		return uint64(p.unary(MaxUnary))
	case gamma:
		k := p.unary(63)
		return 1<<k + p.fixed(k)
	}
	if c.n < 0 || c.n > 63 {
		panic(stop(api.ErrArg))
	}
	v := uint64(p.unary(MaxUnary))
	for range c.n {
		if v >= 1<<63 {
			panic(stop(api.ErrForm))
		}
		v *= 2
	}
	return v + p.fixed(c.n)
}

// read is one read; a wrong one takes nothing and is the last one.
func (p *plain) read(c item) (v uint64) {
	if p.err != api.OK {
		return 0
	}
	begun := p.at
	defer func() {
		if e := recover(); e != nil {
			p.err, p.at, v = api.Errno(e.(stop)), begun, 0
		}
	}()
	return p.number(c)
}

// end is what End tells.
func (p *plain) end() api.Errno {
	if p.err == api.OK && p.at < len(p.bits) {
		return api.ErrForm
	}
	return p.err
}

// state fails if the reader is not just here, with just this error.
func state(t *testing.T, name string, r *Reader, left int, e api.Errno) {
	t.Helper()
	end := e
	if e == api.OK && left > 0 {
		end = api.ErrForm
	}
	// Twice, as asking changes nothing.
	for range 2 {
		if r.Left() != left || r.Err() != e || r.End() != end {
			t.Fatalf("%s: Left %d, Err %d, End %d, want %d, %d, %d", name, r.Left(), r.Err(), r.End(), left, e, end)
		}
	}
}

// wrong fails if a read of these bits does not tell 0 and this error, takes
// anything, or if further reads do.
func wrong(t *testing.T, bits string, c item, e api.Errno) {
	t.Helper()
	name := fmt.Sprintf("%s of %d bits", c, len(bits))
	r := Open(rowOf(bits))
	state(t, name, r, len(bits), api.OK)
	if v := c.read(r); v != 0 {
		t.Fatalf("%s: told %d", name, v)
	}
	state(t, name, r, len(bits), e)
	for _, next := range further() {
		if v := next.read(r); v != 0 {
			t.Fatalf("%s: behind it %s told %d", name, next, v)
		}
		state(t, fmt.Sprintf("%s: behind it %s", name, next), r, len(bits), e)
	}
}

// right fails if a read of these bits does not tell v and take so many bits.
func right(t *testing.T, bits string, c item, taken int) {
	t.Helper()
	name := fmt.Sprintf("%s of %d bits", c, len(bits))
	r := Open(rowOf(bits))
	if v := c.read(r); v != c.v {
		t.Fatalf("%s: told %d, Err %d", name, v, r.Err())
	}
	state(t, name, r, len(bits)-taken, api.OK)
}

// further is reads that are made behind an error: of all kinds, some of which
// would be right and some of which would be wrong in another way.
func further() []item {
	return []item{{fixed, 0, 1}, {fixed, 0, 0}, {unary, 0, 0}, {gamma, 0, 0}, {rice, 0, 1},
		{fixed, 0, -1}, {fixed, 0, 65}, {rice, 0, 64}, {rice, 0, -1}, {fixed, 0, 64}, {rice, 0, 63}}
}

// edges is codes of all kinds at their edges, and between them.
func edges() []item {
	l := []item{{gamma, 1, 0}, {gamma, 2, 0}, {gamma, 3, 0}, {gamma, 5, 0}, {gamma, most, 0},
		{rice, 9, 2}, {fixed, 0, 0}, {rice, MaxUnary, 0}, {rice, 0, 0}, {rice, most, 63}}
	for n := range 65 {
		top := uint64(math.MaxUint64)
		if n < 64 {
			top = 1<<n - 1
		}
		l = append(l, item{fixed, 0, n}, item{fixed, top, n}, item{fixed, top / 3, n}, item{fixed, top - top/2, n})
	}
	for _, n := range []uint64{0, 1, 2, 62, 63, 64, 65, 126, 127, 128, 129, 130, 500, 4031, 4032, 4033, 4095, 4096} {
		l = append(l, item{unary, n, 0})
	}
	for k := range 64 {
		one := uint64(1) << k
		l = append(l, item{gamma, one, 0}, item{gamma, one | (one - 1), 0}, item{gamma, one | one/3, 0})
		// The greatest number with k last bits that may be written.
		high := min(uint64(MaxUnary), uint64(math.MaxUint64)>>k)
		l = append(l, item{rice, 0, k}, item{rice, one - 1, k}, item{rice, one, k}, item{rice, one + one/3, k},
			item{rice, high<<k | (one - 1), k}, item{rice, high << k, k})
	}
	return l
}

// mixed is n codes that look as if by chance; they are the same each time.
func mixed(seed uint64, n int) []item {
	x := seed
	next := func() uint64 {
		x = x*6364136223846793005 + 1442695040888963407
		return (x ^ x>>31) >> 1
	}
	var l []item
	for range n {
		v, w := next(), int(next()%65)
		switch next() % 4 {
		case 0:
			if w < 64 {
				v &= 1<<w - 1
			}
			l = append(l, item{fixed, v, w})
		case 1:
			l = append(l, item{unary, v % (MaxUnary + 1) >> (w % 13), 0})
		case 2:
			l = append(l, item{gamma, v>>min(w, 62) | 1, 0})
		case 3:
			k := min(w, 63)
			high := v % (MaxUnary + 1) >> (next() % 13)
			if k >= 51 {
				high &= 1<<(64-k) - 1
			}
			l = append(l, item{rice, high<<k | next()&(1<<k-1), k})
		}
	}
	return l
}

// The chapter's first example.
func TestExample(t *testing.T) {
	g, r := &Writer{}, &Writer{}
	if g.Gamma(5) != api.OK || r.Rice(9, 2) != api.OK {
		t.Fatal("Gamma(5) or Rice(9, 2) is not written")
	}
	if told(g.Row()) != "00110" || told(r.Row()) != "00110" {
		t.Errorf("Gamma(5) has %s, Rice(9, 2) has %s, want 00110", told(g.Row()), told(r.Row()))
	}
	if v := Open(g.Row()).Gamma(); v != 5 {
		t.Errorf("Gamma reads %d, want 5", v)
	}
	if v := Open(g.Row()).Rice(2); v != 9 {
		t.Errorf("Rice(2) reads %d, want 9", v)
	}
}

// The head of the chapter: each code's bits, told by hand.
func TestCodesByHand(t *testing.T) {
	for _, c := range []struct {
		item
		want string
	}{
		{item{fixed, 0, 0}, ""}, {item{fixed, 0, 3}, "000"}, {item{fixed, 6, 3}, "011"}, {item{fixed, 1, 4}, "1000"},
		{item{fixed, 1 << 63, 64}, noughts(63) + "1"}, {item{fixed, most, 64}, strings.Repeat("1", 64)},
		{item{unary, 0, 0}, "1"}, {item{unary, 1, 0}, "01"}, {item{unary, 3, 0}, "0001"}, {item{unary, 64, 0}, noughts(64) + "1"},
		{item{gamma, 1, 0}, "1"}, {item{gamma, 2, 0}, "010"}, {item{gamma, 3, 0}, "011"}, {item{gamma, 4, 0}, "00100"},
		{item{gamma, 6, 0}, "00101"}, {item{gamma, most, 0}, noughts(63) + strings.Repeat("1", 64)},
		{item{rice, 0, 0}, "1"}, {item{rice, 3, 0}, "0001"}, {item{rice, 0, 3}, "1000"}, {item{rice, 6, 3}, "1011"},
		{item{rice, 14, 3}, "01011"}, {item{rice, most, 63}, "01" + strings.Repeat("1", 63)},
	} {
		w := &Writer{}
		if e := c.write(w); e != api.OK || told(w.Row()) != c.want {
			t.Errorf("%s: error %d, bits %s, want %s", c.item, e, told(w.Row()), c.want)
		}
		if c.bits() != c.want {
			t.Errorf("%s: the plain bits are %s, want %s", c.item, c.bits(), c.want)
		}
	}
}

// P6.1: each code at its edges, written by a new writer and behind other bits,
// so that it begins at every place of a word.
func TestWritten(t *testing.T) {
	for _, c := range edges() {
		want := c.bits()
		for ahead := range 65 {
			if ahead > 1 && ahead < 63 && len(want) > 200 {
				continue
			}
			w := &Writer{}
			if ahead > 0 {
				w.Fixed(1<<(ahead-1), ahead)
			}
			if e := c.write(w); e != api.OK {
				t.Fatalf("%s: error %d", c, e)
			}
			if got := told(w.Row()); got[ahead:] != want || ahead > 0 && got[:ahead] != noughts(ahead-1)+"1" {
				t.Fatalf("%s behind %d bits: %s, want %s", c, ahead, got, want)
			}
		}
	}
}

// P6.1: codes of all kinds come one behind the other.
func TestWrittenInARow(t *testing.T) {
	for seed := range uint64(20) {
		w := &Writer{}
		var want strings.Builder
		for i, c := range mixed(seed, 60) {
			if e := c.write(w); e != api.OK {
				t.Fatalf("%d, code %d, %s: error %d", seed, i, c, e)
			}
			want.WriteString(c.bits())
			if w.Row().Len() != want.Len() {
				t.Fatalf("%d, code %d, %s: %d bits in all, want %d", seed, i, c, w.Row().Len(), want.Len())
			}
		}
		if told(w.Row()) != want.String() {
			t.Fatalf("%d: other bits are written than these codes have", seed)
		}
	}
}

// refusal is a code that may not be written, and its error.
type refusal struct {
	item
	want api.Errno
}

// refused is codes that may not be written. Those next to the edges come first,
// so that a test ends there ahead of a unary that never would.
func refused() []refusal {
	l := []refusal{{item{gamma, 0, 0}, api.ErrRange}}
	for _, n := range []int{-1, 4097, 4098, 8192, -4096, math.MinInt, 1 << 32, math.MaxInt} {
		l = append(l, refusal{item{unary, uint64(n), 0}, api.ErrRange})
	}
	for n := range 64 {
		l = append(l, refusal{item{fixed, 1 << n, n}, api.ErrRange}, refusal{item{fixed, most, n}, api.ErrRange},
			refusal{item{fixed, 1 << 63, n}, api.ErrRange})
	}
	// From 52 last bits on each number's unary is at most 4095; with 51 the
	// greatest number's one is 8191.
	for k := 51; k >= 0; k-- {
		l = append(l, refusal{item{rice, (MaxUnary + 1) << k, k}, api.ErrRange}, refusal{item{rice, most, k}, api.ErrRange})
	}
	for _, n := range []int{-1, 65, -2, 66, -63, -64, -65, 127, 128, 1 << 32, math.MinInt + 64, math.MinInt, math.MaxInt} {
		for _, v := range []uint64{0, 1, 5, most} {
			l = append(l, refusal{item{fixed, v, n}, api.ErrArg}, refusal{item{rice, v, n}, api.ErrArg})
		}
	}
	for _, v := range []uint64{0, 1, most} {
		l = append(l, refusal{item{rice, v, 64}, api.ErrArg})
	}
	return l
}

// P6.1: which error each call tells, and that nothing is written with it, by a
// new writer and by one that has written.
func TestRefused(t *testing.T) {
	for _, c := range refused() {
		w := &Writer{}
		if e := c.write(w); e != c.want || w.Row().Len() != 0 {
			t.Fatalf("%s: error %d, %d bits, want error %d and none", c.item, e, w.Row().Len(), c.want)
		}
		w.Unary(70)
		if e := c.write(w); e != c.want || told(w.Row()) != noughts(70)+"1" {
			t.Fatalf("%s behind a unary: error %d, bits %s, want error %d", c.item, e, told(w.Row()), c.want)
		}
		if w.Gamma(5) != api.OK || told(w.Row()) != noughts(70)+"100110" {
			t.Fatalf("Gamma(5) behind %s: bits %s", c.item, told(w.Row()))
		}
	}
}

// P6.1: just above the edges an error, just below them none.
func TestWriteEdges(t *testing.T) {
	for _, c := range []struct {
		item
		want api.Errno
	}{
		{item{fixed, 0, -1}, api.ErrArg}, {item{fixed, 0, 0}, api.OK}, {item{fixed, 1, 0}, api.ErrRange},
		{item{fixed, 1, 1}, api.OK}, {item{fixed, 2, 1}, api.ErrRange}, {item{fixed, 1<<63 - 1, 63}, api.OK},
		{item{fixed, 1 << 63, 63}, api.ErrRange}, {item{fixed, most, 64}, api.OK}, {item{fixed, 0, 65}, api.ErrArg},
		{item{unary, most, 0}, api.ErrRange}, {item{unary, 0, 0}, api.OK}, {item{unary, 4095, 0}, api.OK},
		{item{unary, 4096, 0}, api.OK}, {item{unary, 4097, 0}, api.ErrRange},
		{item{gamma, 0, 0}, api.ErrRange}, {item{gamma, 1, 0}, api.OK}, {item{gamma, most, 0}, api.OK},
		{item{rice, 0, -1}, api.ErrArg}, {item{rice, 4096, 0}, api.OK}, {item{rice, 4097, 0}, api.ErrRange},
		{item{rice, 4097*8 - 1, 3}, api.OK}, {item{rice, 4097 * 8, 3}, api.ErrRange},
		{item{rice, 4097<<51 - 1, 51}, api.OK}, {item{rice, 4097 << 51, 51}, api.ErrRange},
		{item{rice, most, 52}, api.OK}, {item{rice, most, 63}, api.OK}, {item{rice, 0, 63}, api.OK}, {item{rice, 0, 64}, api.ErrArg},
	} {
		if e := c.write(&Writer{}); e != c.want {
			t.Errorf("%s: error %d, want %d", c.item, e, c.want)
		}
	}
}

// P6.1: a nil Writer tells ErrState, whatever else is wrong, and has a row
// without bits, which is one's own.
func TestNilWriter(t *testing.T) {
	var w *Writer
	for _, c := range refused() {
		if e := c.write(w); e != api.ErrState {
			t.Errorf("%s: error %d, want %d", c.item, e, api.ErrState)
		}
	}
	for _, c := range edges() {
		if e := c.write(w); e != api.ErrState {
			t.Errorf("%s: error %d, want %d", c, e, api.ErrState)
		}
	}
	r := w.Row()
	if r == nil || r.Len() != 0 || r.Add(1, 1) != api.OK {
		t.Fatal("the row of a nil Writer is none that one may add to")
	}
	if w.Row().Len() != 0 {
		t.Error("a nil Writer has bits that were added to a row it told")
	}
}

// P6.1: the zero Writer has a row without bits, which is one's own.
func TestZeroWriter(t *testing.T) {
	var w Writer
	r := w.Row()
	if r == nil || r.Len() != 0 || r.Add(1, 1) != api.OK || w.Row().Len() != 0 {
		t.Fatal("the row of the zero Writer")
	}
	if w.Unary(2) != api.OK || told(w.Row()) != "001" || told(r) != "1" {
		t.Errorf("written: %s, and the row that was told first: %s, want 001 and 1", told(w.Row()), told(r))
	}
}

// P6.1: a row that was told stays as it is, whatever is written later, and what
// is added to it is not the writer's, nor another row's.
func TestRowIsOnesOwn(t *testing.T) {
	// Lengths within a word, at its end and behind it: where rows that share
	// words would show it.
	for _, n := range []int{1, 5, 63, 64, 65, 127, 128, 129, 200} {
		w := &Writer{}
		w.Unary(n - 1)
		first, second := w.Row(), w.Row()
		want := noughts(n-1) + "1"
		w.Fixed(most, 64)
		if told(first) != want || told(second) != want {
			t.Fatalf("%d bits: a row changed with what was written later", n)
		}
		first.Add(5, 3)
		if told(first) != want+"101" || told(second) != want || told(w.Row()) != want+strings.Repeat("1", 64) {
			t.Fatalf("%d bits: adding to a row shows elsewhere", n)
		}
		w.Unary(1)
		if told(first) != want+"101" || told(second) != want || told(w.Row()) != want+strings.Repeat("1", 64)+"01" {
			t.Fatalf("%d bits: writing on shows in rows that were told", n)
		}
	}
}

// P6.1: two writers share nothing.
func TestTwoWriters(t *testing.T) {
	a, b := &Writer{}, &Writer{}
	a.Gamma(5)
	b.Unary(1)
	a.Unary(0)
	if told(a.Row()) != "001101" || told(b.Row()) != "01" {
		t.Errorf("written: %s and %s, want 001101 and 01", told(a.Row()), told(b.Row()))
	}
}

// P6.2: Open of nil and of a row of no bits is a reader of no bits.
func TestOpenNoBits(t *testing.T) {
	for name, row := range map[string]*bitrow.Row{"nil": nil, "empty": bitrow.New()} {
		if Open(row) == nil {
			t.Fatalf("%s: Open tells nil", name)
		}
		state(t, name, Open(row), 0, api.OK)
		r := Open(row)
		if r.Fixed(0) != 0 {
			t.Errorf("%s: Fixed(0) is not 0", name)
		}
		state(t, name+", Fixed(0)", r, 0, api.OK)
		for _, c := range []item{{fixed, 0, 1}, {fixed, 0, 64}, {unary, 0, 0}, {gamma, 0, 0}, {rice, 0, 0}, {rice, 0, 63}} {
			r := Open(row)
			if v := c.read(r); v != 0 {
				t.Errorf("%s: %s told %d", name, c, v)
			}
			state(t, name+", "+c.String(), r, 0, api.ErrShort)
		}
	}
}

// P6.2: a reader is of the row as it was when it was opened, and leaves it so.
func TestOpenIsOfTheRowAsItIs(t *testing.T) {
	for _, n := range []int{0, 1, 5, 63, 64, 65, 127, 128, 129} {
		row := rowOf(noughts(n))
		early, late := Open(row), Open(row)
		for _, w := range []uint64{1, most, 0} {
			row.Add(w, 64)
			state(t, "added to", early, n, api.OK)
		}
		want := row.Words()
		if early.Unary() != 0 {
			t.Fatalf("%d noughts: a one was read that came later", n)
		}
		state(t, fmt.Sprintf("%d noughts", n), early, n, api.ErrShort)
		if v := late.Fixed(min(n, 64)); v != 0 || late.Left() != n-min(n, 64) {
			t.Fatalf("%d noughts: Fixed told %d, %d left", n, v, late.Left())
		}
		if now := Open(row); now.Left() != n+192 || now.Unary() != n {
			t.Fatalf("%d noughts: a new reader does not see what was added", n)
		}
		if !bitrow.Same(row, sameRow(t, want, n+192)) {
			t.Fatalf("%d noughts: reading changed the row", n)
		}
	}
}

func sameRow(t *testing.T, words []uint64, n int) *bitrow.Row {
	t.Helper()
	r, e := bitrow.Of(words, n)
	if e != api.OK {
		t.Fatalf("the row: error %d", e)
	}
	return r
}

// P6.2: two readers of one row go on by themselves.
func TestTwoReaders(t *testing.T) {
	row := rowOf("00110" + "1")
	a, b := Open(row), Open(row)
	if a.Gamma() != 5 || b.Left() != 6 || b.Fixed(65) != 0 {
		t.Fatal("two readers of one row")
	}
	state(t, "the first", a, 1, api.OK)
	state(t, "the second", b, 6, api.ErrArg)
	if a.Unary() != 0 || a.End() != api.OK {
		t.Error("the first reader stopped with the second one")
	}
}

// P6.2: each code at its edges is read, alone, and ahead of noughts and ones,
// and takes just its bits.
func TestRead(t *testing.T) {
	for _, c := range edges() {
		bits := c.bits()
		for _, behind := range []string{"", "0", "1", noughts(70), strings.Repeat("1", 70)} {
			right(t, bits+behind, c, len(bits))
		}
	}
}

// P6.2: of each code, all its bits but some last ones: ErrShort, wherever they
// end.
func TestReadShort(t *testing.T) {
	for _, c := range edges() {
		bits := c.bits()
		for have := range len(bits) {
			// Of the long ones the ends, and some between.
			if have > 70 && have < len(bits)-70 && have%61 != 0 {
				continue
			}
			r := Open(rowOf(bits[:have]))
			if v := c.read(r); v != 0 || r.Err() != api.ErrShort || r.Left() != have || r.End() != api.ErrShort {
				t.Fatalf("%s, %d of its %d bits: told %d, Err %d, Left %d, End %d",
					c, have, len(bits), v, r.Err(), r.Left(), r.End())
			}
		}
	}
}

// P6.2: Fixed of just as many bits as there are, and of one more.
func TestReadFixedToTheEnd(t *testing.T) {
	for n := range 65 {
		ones := strings.Repeat("1", n)
		v := uint64(math.MaxUint64)
		if n < 64 {
			v = 1<<n - 1
		}
		right(t, ones, item{fixed, v, n}, n)
		if n < 64 {
			wrong(t, ones, item{fixed, 0, n + 1}, api.ErrShort)
		}
		wrong(t, ones, item{fixed, 0, 65}, api.ErrArg)
	}
}

// P6.2: a unary of MaxUnary noughts is right; one more is ErrForm as soon as it
// is there, whether bits are behind it or not.
func TestReadUnaryLimit(t *testing.T) {
	c := item{unary, MaxUnary, 0}
	for _, behind := range []string{"", "0", "1", "10"} {
		right(t, noughts(4095)+"1"+behind, item{unary, 4095, 0}, 4096)
		right(t, noughts(4096)+"1"+behind, c, 4097)
		wrong(t, noughts(4097)+behind, c, api.ErrForm)
		wrong(t, noughts(4097)+behind, item{rice, 0, 0}, api.ErrForm)
		wrong(t, noughts(4097)+behind, item{rice, 0, 5}, api.ErrForm)
	}
	wrong(t, noughts(4095), c, api.ErrShort)
	wrong(t, noughts(4096), c, api.ErrShort)
	wrong(t, noughts(4096), item{rice, 0, 0}, api.ErrShort)
	wrong(t, noughts(9000), c, api.ErrForm)
	wrong(t, noughts(9000)+"1", c, api.ErrForm)
	wrong(t, noughts(4097)+"1"+strings.Repeat("1", 64), item{rice, 0, 5}, api.ErrForm)
}

// P6.2: in Gamma 63 noughts are right, and 64 are ErrForm as soon as they are
// there, whether bits are behind them or not.
func TestReadGammaLimit(t *testing.T) {
	c := item{gamma, 0, 0}
	ones := strings.Repeat("1", 63)
	right(t, noughts(63)+"1"+ones, item{gamma, most, 0}, 127)
	right(t, noughts(63)+"1"+noughts(63), item{gamma, 1 << 63, 0}, 127)
	right(t, noughts(62)+"1"+ones, item{gamma, 1<<63 - 1, 0}, 125)
	wrong(t, noughts(62), c, api.ErrShort)
	wrong(t, noughts(63), c, api.ErrShort)
	wrong(t, noughts(63)+"1", c, api.ErrShort)
	wrong(t, noughts(63)+"1"+ones[1:], c, api.ErrShort)
	for _, behind := range []string{"", "0", "1", "1" + ones, "1" + ones + "1", noughts(5000), noughts(5000) + "1"} {
		wrong(t, noughts(64)+behind, c, api.ErrForm)
	}
}

// P6.2: in Rice a number that is not below 2^64 is found by its unary alone,
// whether its last bits are there or not; one just below it is read.
func TestReadRiceLimit(t *testing.T) {
	// With 52 last bits a unary of 4096 is 2^64; with 51 it is 2^63.
	for k := 52; k <= 63; k++ {
		over := 1 << (64 - k)
		ones := strings.Repeat("1", k)
		right(t, noughts(over-1)+"1"+ones, item{rice, most, k}, over+k)
		right(t, noughts(over-1)+"1"+noughts(k), item{rice, most << k, k}, over+k)
		c := item{rice, 0, k}
		wrong(t, noughts(over-1)+"1"+ones[1:], c, api.ErrShort)
		wrong(t, noughts(over-1)+"1", c, api.ErrShort)
		for _, more := range []int{over, min(over+1, MaxUnary), min(2*over, MaxUnary), MaxUnary} {
			for _, behind := range []string{"", "1", ones[1:], ones, noughts(k), ones + "1"} {
				wrong(t, noughts(more)+"1"+behind, c, api.ErrForm)
			}
		}
		// Noughts that no one ends yet are no unary: the bits end too early.
		wrong(t, noughts(over), c, api.ErrShort)
	}
	ones := strings.Repeat("1", 51)
	right(t, noughts(4096)+"1"+ones, item{rice, 4097<<51 - 1, 51}, 4097+51)
	wrong(t, noughts(4096)+"1"+ones[1:], item{rice, 0, 51}, api.ErrShort)
}

// P6.2: an n or a k that may not be is ErrArg, ahead of what the bits are.
func TestReadArg(t *testing.T) {
	for _, bits := range []string{"", "1", noughts(5000), strings.Repeat("1", 200)} {
		for _, n := range []int{math.MinInt, math.MinInt + 64, -65, -64, -1, 65, 66, 128, 1 << 32, math.MaxInt - 64, math.MaxInt} {
			wrong(t, bits, item{fixed, 0, n}, api.ErrArg)
			wrong(t, bits, item{rice, 0, n}, api.ErrArg)
		}
		wrong(t, bits, item{rice, 0, 64}, api.ErrArg)
	}
	right(t, noughts(64), item{fixed, 0, 64}, 64)
	right(t, "1"+noughts(63), item{rice, 0, 63}, 64)
	right(t, "1", item{rice, 0, 0}, 1)
	right(t, "1", item{fixed, 0, 0}, 0)
}

// P6.2: the first wrong read is the error, behind right ones too; what was taken
// ahead of it stays taken, and nothing is taken any more.
func TestReadBehindAnError(t *testing.T) {
	for _, c := range []struct {
		rest string
		item
		want api.Errno
	}{
		{"111", item{fixed, 0, 4}, api.ErrShort}, {"111", item{fixed, 0, -1}, api.ErrArg},
		{"111", item{rice, 0, 64}, api.ErrArg}, {"000", item{unary, 0, 0}, api.ErrShort},
		{"001", item{gamma, 0, 0}, api.ErrShort}, {noughts(64) + "1", item{gamma, 0, 0}, api.ErrForm},
		{"001111", item{rice, 0, 63}, api.ErrForm}, {"011", item{rice, 0, 2}, api.ErrShort},
		{noughts(4097) + "1", item{unary, 0, 0}, api.ErrForm},
	} {
		r := Open(rowOf("00110" + "0001" + c.rest))
		if r.Gamma() != 5 || r.Unary() != 3 {
			t.Fatal("the codes ahead of the wrong one")
		}
		left := len(c.rest)
		state(t, "ahead of "+c.String(), r, left, api.OK)
		if v := c.read(r); v != 0 {
			t.Fatalf("%s told %d", c.item, v)
		}
		state(t, c.String(), r, left, c.want)
		for _, next := range further() {
			if v := next.read(r); v != 0 {
				t.Fatalf("behind %s, %s told %d", c.item, next, v)
			}
			state(t, fmt.Sprintf("behind %s, %s", c.item, next), r, left, c.want)
		}
	}
}

// P6.2: wherever bits begin within a word, a read sees those from there on
// alone: codes behind 0 to 130 bits of ones, and of noughts with a one.
func TestReadBehindBits(t *testing.T) {
	for _, c := range edges() {
		bits := c.bits()
		if len(bits) > 200 {
			continue
		}
		for _, ahead := range []int{1, 2, 31, 63, 64, 65, 127, 128, 130} {
			r := Open(rowOf(strings.Repeat("1", ahead-1) + "0" + bits + "101"))
			for range ahead {
				r.Fixed(1)
			}
			if v := c.read(r); v != c.v || r.Left() != 3 || r.Err() != api.OK || r.Fixed(3) != 5 || r.End() != api.OK {
				t.Fatalf("%s behind %d bits: told %d, Err %d", c, ahead, v, r.Err())
			}
		}
	}
}

// P6.3: a nil Reader.
func TestNilReader(t *testing.T) {
	var r *Reader
	for _, c := range append(further(), edges()...) {
		if v := c.read(r); v != 0 {
			t.Errorf("%s of nil told %d", c, v)
		}
	}
	if r.Left() != 0 || r.Err() != api.ErrState || r.End() != api.ErrState {
		t.Errorf("of nil: Left %d, Err %d, End %d, want 0, %d, %d", r.Left(), r.Err(), r.End(), api.ErrState, api.ErrState)
	}
}

// P6.3: End with bits left is ErrForm, and no error of the reader: it goes on.
func TestEnd(t *testing.T) {
	r := Open(rowOf("00110" + "01" + "1"))
	for _, c := range []struct {
		item
		left int
		end  api.Errno
	}{{item{gamma, 5, 0}, 3, api.ErrForm}, {item{unary, 1, 0}, 1, api.ErrForm}, {item{fixed, 1, 1}, 0, api.OK}} {
		if r.End() != api.ErrForm || r.Err() != api.OK {
			t.Fatalf("ahead of %s: End %d, Err %d", c.item, r.End(), r.Err())
		}
		if v := c.read(r); v != c.v || r.Left() != c.left || r.End() != c.end || r.Err() != api.OK {
			t.Fatalf("%s: told %d, Left %d, End %d, Err %d", c.item, v, r.Left(), r.End(), r.Err())
		}
	}
	// At the end, too, a wrong read is the error.
	if r.Unary() != 0 || r.Left() != 0 || r.Err() != api.ErrShort || r.End() != api.ErrShort {
		t.Errorf("behind the end: Left %d, Err %d, End %d", r.Left(), r.Err(), r.End())
	}
}

// against holds a reader against the plain one, read by read.
func against(t *testing.T, bits string, reads []item) {
	t.Helper()
	r, p := Open(rowOf(bits)), &plain{bits: bits}
	for i, c := range reads {
		got, want := c.read(r), p.read(c)
		if got != want || r.Left() != len(bits)-p.at || r.Err() != p.err || r.End() != p.end() {
			t.Fatalf("%d bits, read %d, %s: told %d, Left %d, Err %d, End %d, want %d, %d, %d, %d",
				len(bits), i, c, got, r.Left(), r.Err(), r.End(), want, len(bits)-p.at, p.err, p.end())
		}
	}
}

// P6.2, P6.3: all rows of at most 9 bits, with all pairs of some reads.
func TestAgainstPlainShort(t *testing.T) {
	kinds := []item{{unary, 0, 0}, {gamma, 0, 0}, {rice, 0, 0}, {rice, 0, 1}, {rice, 0, 3}, {rice, 0, 63}, {rice, 0, 62},
		{fixed, 0, 0}, {fixed, 0, 1}, {fixed, 0, 3}, {fixed, 0, 65}, {rice, 0, -1}}
	for n := range 10 {
		for v := range uint64(1) << n {
			bits := lowest(v, n)
			for _, a := range kinds {
				for _, b := range kinds {
					against(t, bits, []item{a, b, a})
				}
			}
		}
	}
}

// P6.2, P6.3: long rows that no writer wrote, thick and thin, read in many ways.
func TestAgainstPlainLong(t *testing.T) {
	for seed := range uint64(300) {
		x := seed
		var s strings.Builder
		for range 3000 + seed*7 {
			x = x*6364136223846793005 + 1442695040888963407
			// The thinnest ones have a one in some 700 bits.
			if (x>>33)%(1+seed%7*100) == 0 {
				s.WriteByte('1')
			} else {
				s.WriteByte('0')
			}
		}
		against(t, s.String(), mixed(seed, 400))
	}
}

// P6.4: what is written is read as it was, code by code, to the end.
func TestThereAndBack(t *testing.T) {
	lists := [][]item{edges()}
	for seed := range uint64(60) {
		lists = append(lists, mixed(seed+1000, 150))
	}
	for l, list := range lists {
		w := &Writer{}
		for _, c := range list {
			if e := c.write(w); e != api.OK {
				t.Fatalf("list %d, %s: error %d", l, c, e)
			}
		}
		r := Open(w.Row())
		left := w.Row().Len()
		for i, c := range list {
			if v := c.read(r); v != c.v {
				t.Fatalf("list %d, code %d, %s: told %d, Err %d", l, i, c, v, r.Err())
			}
			left -= len(c.bits())
			if r.Left() != left || r.Err() != api.OK {
				t.Fatalf("list %d, code %d, %s: Left %d, Err %d, want %d, 0", l, i, c, r.Left(), r.Err(), left)
			}
		}
		if r.End() != api.OK || left != 0 {
			t.Fatalf("list %d: End %d, %d left", l, r.End(), left)
		}
	}
}

// P6.4: also while it is written on: each code is read of the row as far as it
// is, and codes that were refused between leave no trace.
func TestThereAndBackWithErrorsBetween(t *testing.T) {
	w := &Writer{}
	list := mixed(7, 100)
	for _, c := range list {
		w.Fixed(4, 2)
		w.Unary(-1)
		w.Gamma(0)
		w.Rice(MaxUnary+1, 0)
		c.write(w)
		w.Rice(1, 64)
		w.Unary(MaxUnary + 1)
		w.Fixed(0, 65)
	}
	r := Open(w.Row())
	for i, c := range list {
		if v := c.read(r); v != c.v {
			t.Fatalf("code %d, %s: told %d, Err %d", i, c, v, r.Err())
		}
	}
	if r.End() != api.OK {
		t.Errorf("End %d", r.End())
	}
}
