package run_test

import (
	"fmt"
	"iter"
	"locution/api"
	"locution/block"
	"locution/run"
	"math/big"
	"slices"
	"strings"
	"testing"
)

// least and most are the ends of what an int may be.
const (
	least = -1 << 63
	most  = 1<<63 - 1
)

// top is the greatest number that an n-gram may have in it.
const top = 1<<24 - 1

// mixed is a number from 0 to below bound that looks as if by chance; of each i
// it is the same each time.
func mixed(i, bound int) int {
	x := (uint64(i) + 1) * 0x9e3779b97f4a7c15
	x ^= x >> 31
	x *= 0xbf58476d1ce4e5b9
	x ^= x >> 29
	return int(x % uint64(bound))
}

// brief is how v is printed, cut where it is long.
func brief(v any) string {
	s := fmt.Sprint(v)
	return s[:min(len(s), 200)]
}

// one is the n-gram of these numbers, n times.
func one(n int, g ...int) api.Count { return api.Count{G: g, N: n} }

// list is a list of n-grams.
func list(l ...api.Count) []api.Count { return l }

// example is the chapter's n-grams, with 14 bytes.
func example() []api.Count { return list(one(5, 1, 2), one(1, 1, 3)) }

// copied is a copy of l, down to its n-grams.
func copied(l []api.Count) []api.Count {
	var c []api.Count
	for _, x := range l {
		c = append(c, api.Count{G: slices.Clone(x.G), N: x.N})
	}
	return c
}

// same tells whether two lists have the same n-grams with the same numbers.
func same(l, m []api.Count) bool {
	return slices.EqualFunc(l, m, func(a, b api.Count) bool { return a.N == b.N && slices.Equal(a.G, b.G) })
}

// some is about k n-grams of this order, that rise, with numbers that look as if
// by chance.
func some(seed, k, order, bound int) []api.Count {
	var l []api.Count
	for i := range k {
		g := make([]int, order)
		for j := range g {
			g[j] = mixed(seed*1_000_003+i*order+j, bound)
		}
		// Numbers of one byte, and of as many as there may be.
		n := 1 + mixed(seed+i, 1<<(1+mixed(i, 40)))
		l = append(l, api.Count{G: g, N: n})
	}
	slices.SortFunc(l, func(a, b api.Count) int { return strings.Compare(plainKey(a.G), plainKey(b.G)) })
	return slices.CompactFunc(l, func(a, b api.Count) bool { return slices.Equal(a.G, b.G) })
}

// plainKey is three bytes of each number, the highest first.
func plainKey(g []int) string {
	s := ""
	for _, w := range g {
		s += string([]byte{byte(w / 65536), byte(w / 256 % 256), byte(w % 256)})
	}
	return s
}

// plainNum is a number as bytes of seven bits each, the lowest first.
func plainNum(n int) string {
	v, s := big.NewInt(int64(n)), ""
	for {
		digit := new(big.Int)
		v.DivMod(v, big.NewInt(128), digit)
		if v.Sign() == 0 {
			return s + string([]byte{byte(digit.Int64())})
		}
		s += string([]byte{byte(digit.Int64() + 128)})
	}
}

// plainBytes is the bytes of these n-grams, one behind the other.
func plainBytes(l []api.Count) string {
	var b strings.Builder
	for _, c := range l {
		b.WriteString(plainKey(c.G) + plainNum(c.N))
	}
	return b.String()
}

// plainCut is s in texts of this size, the last one of what is left.
func plainCut(s string, size int) []string {
	var l []string
	for ; len(s) > size; s = s[size:] {
		l = append(l, s[:size])
	}
	if s != "" {
		l = append(l, s)
	}
	return l
}

// plainRises tells whether the keys of l, as texts, rise.
func plainRises(l []api.Count) bool {
	for i := 1; i < len(l); i++ {
		if plainKey(l[i-1].G) >= plainKey(l[i].G) {
			return false
		}
	}
	return true
}

// plainParse is the n-grams of which s is the bytes, if there are k of that order:
// they are read loosely, and are what is asked for, if they have these bytes.
func plainParse(s string, order, k int) ([]api.Count, bool) {
	var l []api.Count
	rest := s
	for range k {
		if len(rest) < 3*order {
			return nil, false
		}
		var c api.Count
		for j := range order {
			c.G = append(c.G, int(rest[3*j])<<16+int(rest[3*j+1])<<8+int(rest[3*j+2]))
		}
		rest = rest[3*order:]
		end := strings.IndexFunc(rest, func(r rune) bool { return r < 128 })
		if end < 0 || end > 6 {
			return nil, false
		}
		for j := end; j >= 0; j-- {
			c.N = c.N<<7 + int(rest[j]&127)
		}
		rest = rest[end+1:]
		if c.N < 1 || c.N > api.MaxValue {
			return nil, false
		}
		l = append(l, c)
	}
	return l, plainRises(l) && plainBytes(l) == s
}

// fresh is a new store that must be there.
func fresh(t *testing.T, size, blocks int) *block.Store {
	t.Helper()
	s, e := block.New(size, blocks)
	if s == nil || e != api.OK {
		t.Fatalf("New of %d, %d: %v, %d", size, blocks, s, e)
	}
	return s
}

// holding is a new store whose first blocks have these texts, and k free ones.
func holding(t *testing.T, size, k int, texts ...string) *block.Store {
	t.Helper()
	s := fresh(t, size, len(texts)+k)
	for _, text := range texts {
		id, e := s.Alloc()
		if e != api.OK {
			t.Fatalf("Alloc: %d", e)
		}
		lay(t, s, id, text)
	}
	return s
}

// lay writes a text into a block of s.
func lay(t *testing.T, s *block.Store, id int, text string) {
	t.Helper()
	if e := s.Write(id, text); e != api.OK {
		t.Fatalf("Write of the block %d: %d", id, e)
	}
}

// drop makes blocks of s free.
func drop(t *testing.T, s *block.Store, ids ...int) {
	t.Helper()
	for _, id := range ids {
		if e := s.Free(id); e != api.OK {
			t.Fatalf("Free of the block %d: %d", id, e)
		}
	}
}

// upto is the numbers from 0 to below k.
func upto(k int) []int {
	var l []int
	for i := range k {
		l = append(l, i)
	}
	return l
}

// state is all that a store tells.
func state(s *block.Store) string {
	var b strings.Builder
	fmt.Fprint(&b, s.Size(), s.Used(), s.Left(), s.Peak())
	for id := range s.Used() + s.Left() {
		text, e := s.Read(id)
		fmt.Fprintf(&b, " %q %d", text, e)
	}
	return b.String()
}

// stays fails, if act changes the store.
func stays(t *testing.T, s *block.Store, act func()) {
	t.Helper()
	was := state(s)
	act()
	if is := state(s); is != was {
		t.Fatalf("the store was %s, and is %s", brief(was), brief(is))
	}
}

// write is the run of l, which must be written.
func write(t *testing.T, s *block.Store, order int, l []api.Count) run.Run {
	t.Helper()
	was := copied(l)
	r, e := run.Write(s, order, l)
	if e != api.OK {
		t.Fatalf("Write of %s: %d", brief(l), e)
	}
	if r.Order != order || r.Len != len(l) {
		t.Fatalf("Write of %s: order %d, length %d, not %d and %d", brief(l), r.Order, r.Len, order, len(l))
	}
	if !same(l, was) {
		t.Fatalf("Write has changed %s to %s", brief(was), brief(l))
	}
	return r
}

// unwritten fails, if Write tells something else than this error, or changes
// anything.
func unwritten(t *testing.T, s *block.Store, order int, l []api.Count, want api.Errno) {
	t.Helper()
	was := copied(l)
	stays(t, s, func() {
		t.Helper()
		r, e := run.Write(s, order, l)
		if e != want || r.Order != 0 || r.Len != 0 || len(r.Blocks) != 0 {
			t.Fatalf("Write of order %d, %s: %s, %d, not nothing and %d", order, brief(l), brief(r), e, want)
		}
	})
	if !same(l, was) {
		t.Fatalf("Write has changed %s to %s", brief(was), brief(l))
	}
}

// holds fails, if the blocks of r are others, or have other texts.
func holds(t *testing.T, s *block.Store, r run.Run, blocks []int, texts []string) {
	t.Helper()
	if !slices.Equal(r.Blocks, blocks) {
		t.Fatalf("blocks %s, not %s", brief(r.Blocks), brief(blocks))
	}
	for i, id := range r.Blocks {
		if text, e := s.Read(id); text != texts[i] || e != api.OK {
			t.Fatalf("block %d: %s, %d, not %s", id, brief([]byte(text)), e, brief([]byte(texts[i])))
		}
	}
}

// gone is all that All goes over.
func gone(t *testing.T, seq iter.Seq[api.Count]) []api.Count {
	t.Helper()
	if seq == nil {
		t.Fatal("All: nil")
	}
	var l []api.Count
	for c := range seq {
		l = append(l, c)
	}
	return l
}

// reads fails, if Read and All tell something else than l.
func reads(t *testing.T, s *block.Store, r run.Run, l []api.Count) {
	t.Helper()
	was := slices.Clone(r.Blocks)
	stays(t, s, func() {
		t.Helper()
		got, e := run.Read(s, r)
		if e != api.OK || !same(got, l) {
			t.Fatalf("Read of %s: %s, %d, not %s", brief(r), brief(got), e, brief(l))
		}
		seq := run.All(s, r)
		for range 2 {
			if got := gone(t, seq); !same(got, l) {
				t.Fatalf("All of %s: %s, not %s", brief(r), brief(got), brief(l))
			}
		}
	})
	if !slices.Equal(r.Blocks, was) {
		t.Fatalf("the blocks were %s, and are %s", brief(was), brief(r.Blocks))
	}
}

// unread fails, if Read tells something else than this error, or All something.
func unread(t *testing.T, s *block.Store, r run.Run, want api.Errno) {
	t.Helper()
	was := slices.Clone(r.Blocks)
	stays(t, s, func() {
		t.Helper()
		if got, e := run.Read(s, r); e != want || len(got) != 0 {
			t.Fatalf("Read of %s: %s, %d, not nothing and %d", brief(r), brief(got), e, want)
		}
		if got := gone(t, run.All(s, r)); len(got) != 0 {
			t.Fatalf("All of %s: %s, not nothing", brief(r), brief(got))
		}
	})
	if !slices.Equal(r.Blocks, was) {
		t.Fatalf("the blocks were %s, and are %s", brief(was), brief(r.Blocks))
	}
}

// frees fails, if Free does not make all these blocks free.
func frees(t *testing.T, s *block.Store, r run.Run) {
	t.Helper()
	was := slices.Clone(r.Blocks)
	used, left, peak := s.Used(), s.Left(), s.Peak()
	if e := run.Free(s, r); e != api.OK {
		t.Fatalf("Free of %s: %d", brief(r), e)
	}
	if !slices.Equal(r.Blocks, was) {
		t.Fatalf("the blocks were %s, and are %s", brief(was), brief(r.Blocks))
	}
	if s.Used() != used-len(was) || s.Left() != left+len(was) || s.Peak() != peak {
		t.Fatalf("Free of %s: %d taken, %d free", brief(r), s.Used(), s.Left())
	}
	for _, id := range was {
		if _, e := s.Read(id); e != api.ErrNone {
			t.Fatalf("the block %d is taken yet", id)
		}
	}
}

// unfreed fails, if Free tells something else than this error, or frees anything.
func unfreed(t *testing.T, s *block.Store, r run.Run, want api.Errno) {
	t.Helper()
	was := slices.Clone(r.Blocks)
	stays(t, s, func() {
		t.Helper()
		if e := run.Free(s, r); e != want {
			t.Fatalf("Free of %s: %d, not %d", brief(r), e, want)
		}
	})
	if !slices.Equal(r.Blocks, was) {
		t.Fatalf("the blocks were %s, and are %s", brief(was), brief(r.Blocks))
	}
}

// P19.1, P19.2, P19.3: the chapter's example.
func TestExample(t *testing.T) {
	s := fresh(t, 4, 5)
	r := write(t, s, 2, example())
	holds(t, s, r, []int{0, 1, 2, 3}, []string{"\x00\x00\x01\x00", "\x00\x02\x05\x00", "\x00\x01\x00\x00", "\x03\x01"})
	reads(t, s, r, example())
	unwritten(t, s, 2, example(), api.ErrFull)
	frees(t, s, r)
	unread(t, s, r, api.ErrNone)
	unfreed(t, s, r, api.ErrNone)
}

// P19.1, P19.2: a store that is nil comes ahead of all else.
func TestNilStore(t *testing.T) {
	unwritten(t, nil, 2, example(), api.ErrState)
	unwritten(t, nil, 0, nil, api.ErrState)
	unwritten(t, nil, 9, list(one(0)), api.ErrState)
	for _, r := range []run.Run{{}, {Order: 2}, {Order: 9, Len: -1}, {Order: 2, Len: 2, Blocks: []int{0, 1}}} {
		unread(t, nil, r, api.ErrState)
		unfreed(t, nil, r, api.ErrState)
	}
}

// P19.1: the order is from 1 to api.MaxOrder, and looked at ahead of the n-grams.
func TestOrder(t *testing.T) {
	s := fresh(t, 4, 100)
	for _, order := range []int{least, -1, 0, api.MaxOrder + 1, most} {
		unwritten(t, s, order, nil, api.ErrArg)
		unwritten(t, s, order, example(), api.ErrArg)
		unwritten(t, s, order, list(one(0, -1)), api.ErrArg)
		unread(t, s, run.Run{Order: order}, api.ErrArg)
		unread(t, s, run.Run{Order: order, Len: -1, Blocks: []int{-1}}, api.ErrArg)
	}
	for order := 1; order <= api.MaxOrder; order++ {
		r := write(t, s, order, nil)
		holds(t, s, r, nil, nil)
		reads(t, s, r, nil)
		l := some(order, 3, order, 5)
		r = write(t, s, order, l)
		reads(t, s, r, l)
		frees(t, s, r)
	}
}

// P19.1: an n-gram has just as many numbers as the order says.
func TestNumbersOfNGram(t *testing.T) {
	s := fresh(t, 4, 100)
	for at := range 3 {
		for k := range api.MaxOrder + 2 {
			l := list(one(1, 1, 2, 3), one(1, 1, 2, 4), one(1, 2, 2, 3))
			l[at].G = append(slices.Clone(l[at].G), 9, 9, 9, 9, 9, 9)[:k]
			if k == 3 {
				reads(t, s, write(t, s, 3, l), l)
			} else {
				unwritten(t, s, 3, l, api.ErrArg)
			}
		}
	}
}

// P19.1: the numbers of an n-gram have a key.
func TestKeys(t *testing.T) {
	for at := range 3 {
		for place := range 2 {
			for _, w := range []int{least, -1, 0, 1, 255, 256, 65535, 65536, top, top + 1, most} {
				l := list(one(1, 1, 2), one(1, 3, 4), one(1, 5, 6))
				l[at].G[place] = w
				s := fresh(t, 7, 3)
				switch {
				case w < 0 || w > top:
					unwritten(t, s, 2, l, api.ErrRange)
				case !plainRises(l):
					unwritten(t, s, 2, l, api.ErrOrder)
				default:
					holds(t, s, write(t, s, 2, l), upto(3), plainCut(plainBytes(l), 7))
				}
			}
		}
	}
}

// P19.1: the number of an n-gram is from 1 to api.MaxValue.
func TestNumbers(t *testing.T) {
	for at := range 3 {
		for _, n := range []int{least, -1, 0, 1, 127, 128, 16383, 16384, 1<<35 - 1, api.MaxValue - 1, api.MaxValue, api.MaxValue + 1, most} {
			l := list(one(1, 1), one(2, 3), one(3, 5))
			l[at].N = n
			s := fresh(t, 5, 10)
			if n < 1 || n > api.MaxValue {
				unwritten(t, s, 1, l, api.ErrRange)
				continue
			}
			r := write(t, s, 1, l)
			texts := plainCut(plainBytes(l), 5)
			holds(t, s, r, upto(len(texts)), texts)
			reads(t, s, r, l)
		}
	}
}

// P19.1: each n-gram stands behind the one ahead of it.
func TestRises(t *testing.T) {
	s := fresh(t, 4, 1000)
	numbers := []int{0, 1, 256}
	for _, a := range numbers {
		for _, b := range numbers {
			for _, c := range numbers {
				for _, d := range numbers {
					l := list(one(9, a, b), one(1, c, d))
					if plainRises(l) {
						reads(t, s, write(t, s, 2, l), l)
					} else {
						unwritten(t, s, 2, l, api.ErrOrder)
					}
				}
			}
		}
	}
	unwritten(t, s, 1, list(one(1, 1), one(1, 2), one(1, 2)), api.ErrOrder)
	unwritten(t, s, 1, list(one(1, 1), one(1, 2), one(1, 1)), api.ErrOrder)
	unwritten(t, s, 1, list(one(1, 1), one(1, 1), one(1, 2)), api.ErrOrder)
}

// P19.1: of several faults the one of the first n-gram is told, and of one n-gram
// the one that is named first.
func TestFirstFault(t *testing.T) {
	s := fresh(t, 1, 1)
	long := one(1, 5, 6, 7)
	wide := one(1, 5, top+1)
	none := one(0, 5, 6)
	fallen := one(1, 0, 0)
	faults := []struct {
		c    api.Count
		want api.Errno
	}{
		{one(0, 0, -1, 0), api.ErrArg},
		{one(-1), api.ErrArg},
		{one(0, -1, 0), api.ErrRange},
		{one(1, -1, 0), api.ErrRange},
		{one(0, 0, 0), api.ErrRange},
		{one(api.MaxValue+1, 5, 6), api.ErrRange},
		{long, api.ErrArg}, {wide, api.ErrRange}, {none, api.ErrRange}, {fallen, api.ErrOrder},
	}
	for _, f := range faults {
		// What stands behind the first fault is not looked at, nor the room, which
		// there is not.
		unwritten(t, s, 2, list(one(1, 1, 1), f.c), f.want)
		for _, g := range faults {
			unwritten(t, s, 2, list(one(1, 1, 1), f.c, g.c), f.want)
			unwritten(t, s, 2, list(one(1, 1, 1), one(1, 1, 2), f.c, one(1, 9, 9), g.c), f.want)
		}
	}
	unwritten(t, s, 2, example(), api.ErrFull)
}

// P19.1, P19.3: of blocks of any size, just as many as are needed are taken, or
// none.
func TestRoom(t *testing.T) {
	for _, size := range []int{1, 2, 3, 4, 5, 6, 7, 8, 13, 14, 15, 1000, block.MaxSize} {
		need := (14 + size - 1) / size
		for blocks := 1; blocks <= need+2; blocks++ {
			s := fresh(t, size, blocks)
			if blocks < need {
				unwritten(t, s, 2, example(), api.ErrFull)
				continue
			}
			r := write(t, s, 2, example())
			holds(t, s, r, upto(need), plainCut(plainBytes(example()), size))
			reads(t, s, r, example())
			if s.Used() != need || s.Peak() != need {
				t.Fatalf("blocks of %d bytes: %d taken, not %d", size, s.Used(), need)
			}
		}
	}
}

// P19.1: no free block at all is enough for no n-grams.
func TestNoFreeBlock(t *testing.T) {
	s := holding(t, 4, 0, "a", "b")
	r := write(t, s, 1, nil)
	holds(t, s, r, nil, nil)
	reads(t, s, r, nil)
	frees(t, s, r)
	unwritten(t, s, 1, list(one(1, 1)), api.ErrFull)
	drop(t, s, 1)
	holds(t, s, write(t, s, 1, list(one(1, 1))), []int{1}, []string{"\x00\x00\x01\x01"})
	if text, e := s.Read(0); text != "a" || e != api.OK {
		t.Fatalf("the other block: %q, %d", text, e)
	}
}

// P19.1, P19.3: a run that ends just with a block, and runs with one byte more and
// one fewer.
func TestEnds(t *testing.T) {
	for _, size := range []int{1, 2, 3, 4, 7, 8, 12} {
		for k := range 10 {
			for _, n := range []int{1, 128, 16384} {
				l := make([]api.Count, k)
				for i := range l {
					l[i] = one(1, i*300)
				}
				if k > 0 {
					l[k-1].N = n
				}
				texts := plainCut(plainBytes(l), size)
				s := fresh(t, size, max(1, len(texts)))
				r := write(t, s, 1, l)
				holds(t, s, r, upto(len(texts)), texts)
				reads(t, s, r, l)
			}
		}
	}
}

// P19.1: the blocks are taken one by one, each time the free one with the least
// number.
func TestBlocksBetween(t *testing.T) {
	s := holding(t, 4, 3, "0", "1", "2", "3", "4", "5", "6")
	drop(t, s, 5, 0, 3)
	r := write(t, s, 2, example())
	holds(t, s, r, []int{0, 3, 5, 7}, plainCut(plainBytes(example()), 4))
	reads(t, s, r, example())
	two := list(one(1, 1), one(2, 2))
	q := write(t, s, 1, two)
	holds(t, s, q, []int{8, 9}, plainCut(plainBytes(two), 4))
	frees(t, s, r)
	reads(t, s, q, two)
	for _, id := range []int{1, 2, 4, 6} {
		if text, e := s.Read(id); text != fmt.Sprint(id) || e != api.OK {
			t.Fatalf("the block %d: %q, %d", id, text, e)
		}
	}
	// What is freed can be taken anew.
	r = write(t, s, 2, example())
	holds(t, s, r, []int{0, 3, 5, 7}, plainCut(plainBytes(example()), 4))
}

// P19.1: a write that is refused keeps blocks that lie between as they are.
func TestFullBetween(t *testing.T) {
	s := holding(t, 4, 1, "0", "1", "2", "3")
	drop(t, s, 2, 0)
	unwritten(t, s, 2, example(), api.ErrFull)
	three := list(one(1, 1), one(1, 2), one(1, 3))
	unwritten(t, s, 1, append(copied(three), one(1, 4)), api.ErrFull)
	holds(t, s, write(t, s, 1, three), []int{0, 2, 4}, plainCut(plainBytes(three), 4))
}

// P19.3: what is written is read as it was, and has as many blocks as is told.
func TestThereAndBack(t *testing.T) {
	for seed := range 300 {
		order := 1 + mixed(seed, api.MaxOrder)
		bound := []int{2, 300, 70000, 1 << 24}[mixed(seed+1, 4)]
		l := some(seed, mixed(seed+2, 60), order, bound)
		size := []int{1, 2, 3, 4, 7, 100, block.MaxSize}[mixed(seed+3, 7)]
		texts := plainCut(plainBytes(l), size)
		s := fresh(t, size, len(texts)+1)
		r := write(t, s, order, l)
		holds(t, s, r, upto(len(texts)), texts)
		if k := len(plainBytes(l)); len(r.Blocks) != (k+size-1)/size {
			t.Fatalf("%d bytes in blocks of %d: %d blocks", k, size, len(r.Blocks))
		}
		reads(t, s, r, l)
		frees(t, s, r)
		reads(t, s, write(t, s, order, l), l)
	}
}

// P19.3: a long run is read as it was, from small blocks and from the greatest.
func TestLong(t *testing.T) {
	l := make([]api.Count, 200_000)
	for i := range l {
		l[i] = one(1+mixed(i, api.MaxValue), i/1000, i%1000*7)
	}
	k := len(plainBytes(l))
	for _, size := range []int{5, block.MaxSize} {
		s := fresh(t, size, block.MaxMost)
		r, e := run.Write(s, 2, l)
		if e != api.OK || len(r.Blocks) != (k+size-1)/size || s.Used() != len(r.Blocks) {
			t.Fatalf("a long run in blocks of %d: %d, %d blocks", size, e, len(r.Blocks))
		}
		if got, e := run.Read(s, r); e != api.OK || !same(got, l) {
			t.Fatalf("a long run in blocks of %d: %d, %d n-grams", size, e, len(got))
		}
		if e := run.Free(s, r); e != api.OK || s.Used() != 0 {
			t.Fatalf("a long run in blocks of %d: %d, %d blocks left", size, e, s.Used())
		}
	}
}

// P19.2: the length is from 0 on, and looked at ahead of the blocks.
func TestLen(t *testing.T) {
	s := fresh(t, 4, 10)
	r := write(t, s, 2, example())
	for _, k := range []int{least, -1} {
		unread(t, s, run.Run{Order: 2, Len: k}, api.ErrArg)
		unread(t, s, run.Run{Order: 2, Len: k, Blocks: r.Blocks}, api.ErrArg)
		unread(t, s, run.Run{Order: 2, Len: k, Blocks: []int{9}}, api.ErrArg)
	}
	for _, k := range []int{0, 1, 3, 4, 1 << 40, most} {
		unread(t, s, run.Run{Order: 2, Len: k, Blocks: r.Blocks}, api.ErrForm)
	}
	for _, k := range []int{1, most} {
		unread(t, s, run.Run{Order: 2, Len: k}, api.ErrForm)
	}
	reads(t, s, run.Run{Order: 2}, nil)
}

// P19.2: the bytes of another order are not those of this one.
func TestOtherOrder(t *testing.T) {
	for order := 1; order <= api.MaxOrder; order++ {
		l := some(order, 20, order, 1<<24)
		s := fresh(t, 9, 1000)
		r := write(t, s, order, l)
		for other := 1; other <= api.MaxOrder; other++ {
			r.Order = other
			if other == order {
				reads(t, s, r, l)
			} else {
				unread(t, s, r, api.ErrForm)
			}
		}
	}
	// The bytes from 1 to 28 are seven 1-grams, and four 2-grams, too.
	all := ""
	for b := range 28 {
		all += string([]byte{byte(b + 1)})
	}
	s := holding(t, 28, 0, all)
	for _, r := range []run.Run{{Order: 1, Len: 7, Blocks: []int{0}}, {Order: 2, Len: 4, Blocks: []int{0}}} {
		l, right := plainParse(all, r.Order, r.Len)
		if !right {
			t.Fatalf("%d n-grams of order %d are wrong", r.Len, r.Order)
		}
		reads(t, s, r, l)
		r.Len = 11 - r.Len
		unread(t, s, r, api.ErrForm)
	}
}

// P19.2: a run whose blocks are others than were written.
func TestOtherBlocks(t *testing.T) {
	s := holding(t, 4, 10, "0", "1")
	r := write(t, s, 2, example())
	blocks := slices.Clone(r.Blocks)
	with := func(ids ...int) run.Run { return run.Run{Order: 2, Len: 2, Blocks: ids} }
	reads(t, s, with(blocks...), example())
	for i := range blocks {
		unread(t, s, with(blocks[:i]...), api.ErrForm)
		unread(t, s, with(slices.Delete(slices.Clone(blocks), i, i+1)...), api.ErrForm)
		for at := range len(blocks) + 1 {
			unread(t, s, with(slices.Insert(slices.Clone(blocks), at, blocks[i])...), api.ErrForm)
			unread(t, s, with(slices.Insert(slices.Clone(blocks), at, 0)...), api.ErrForm)
		}
		for j := range i {
			other := slices.Clone(blocks)
			other[i], other[j] = other[j], other[i]
			unread(t, s, with(other...), api.ErrForm)
		}
	}
}

// P19.2: blocks that are not taken are told block by block, ahead of all that the
// bytes are.
func TestBlocksThatAreNotTaken(t *testing.T) {
	s := holding(t, 4, 10, "0", "1")
	r := write(t, s, 2, example())
	for _, id := range []int{least, -1, 6, 11, 12, 1 << 40, most} {
		for at := range len(r.Blocks) + 1 {
			other := run.Run{Order: 2, Len: 2, Blocks: slices.Insert(slices.Clone(r.Blocks), at, id)}
			unread(t, s, other, api.ErrNone)
			other.Len = 0
			unread(t, s, other, api.ErrNone)
			other.Order = 1
			unread(t, s, other, api.ErrNone)
		}
	}
	// Bytes that are wrong stand ahead of the block that is not taken, or behind it.
	unread(t, s, run.Run{Order: 2, Len: 2, Blocks: []int{0, 1, 0, 9}}, api.ErrNone)
	unread(t, s, run.Run{Order: 2, Len: 2, Blocks: []int{9, 0, 1}}, api.ErrNone)
	unread(t, s, run.Run{Order: 2, Len: 2, Blocks: []int{0, 1, 0}}, api.ErrForm)
	for _, id := range r.Blocks {
		q := fresh(t, 4, 10)
		l := write(t, q, 2, example())
		drop(t, q, id-2)
		unread(t, q, l, api.ErrNone)
	}
}

// P19.2: bytes that are cut, or that have others behind them.
func TestCutBytes(t *testing.T) {
	l := list(one(5, 1, 2), one(300, 1, 3), one(api.MaxValue, 7, 7))
	all := plainBytes(l)
	whole := map[int]int{0: 0, 7: 1, 15: 2, len(all): 3}
	for cut := range len(all) + 1 {
		s := holding(t, 100, 0, all[:cut])
		for k := range 5 {
			r := run.Run{Order: 2, Len: k, Blocks: []int{0}}
			if n, there := whole[cut]; there && n == k {
				reads(t, s, r, l[:n])
			} else {
				unread(t, s, r, api.ErrForm)
			}
		}
	}
	for _, more := range []string{"\x00", "\x01", "\xff", "\x00\x00\x08", "\x00\x00\x08\x00\x00\x08", all} {
		for k := range 5 {
			unread(t, holding(t, 100, 0, all+more), run.Run{Order: 2, Len: k, Blocks: []int{0}}, api.ErrForm)
			unread(t, holding(t, 100, 0, all, more), run.Run{Order: 2, Len: k, Blocks: []int{0, 1}}, api.ErrForm)
		}
	}
}

// P19.2: each byte of a run, changed to any other one, is told as what it then is,
// or as an error.
func TestChangedBytes(t *testing.T) {
	l := list(one(5, 1, 2), one(300, 1, 3), one(api.MaxValue, 7, 7))
	all := plainBytes(l)
	for at := range len(all) {
		for b := range 256 {
			bytes := []byte(all)
			bytes[at] = byte(b)
			check(t, string(bytes), 2, 3, plainCut(string(bytes), 5))
		}
	}
}

// check fails, if Read of these texts, which are all together, tells something
// else than k n-grams of this order, where they are these, or that they are not.
func check(t *testing.T, all string, order, k int, texts []string) {
	t.Helper()
	s := holding(t, max(1, len(all)), 1, texts...)
	r := run.Run{Order: order, Len: k, Blocks: upto(len(texts))}
	if l, right := plainParse(all, order, k); right {
		reads(t, s, r, l)
	} else {
		unread(t, s, r, api.ErrForm)
	}
}

// P19.2: numbers that are 0, too great, or written with more bytes than they need.
func TestWrongNumbers(t *testing.T) {
	key := "\x00\x00\x01"
	for _, n := range []string{
		"\x00", "\x80\x00", "\x81\x00", "\x85\x80\x00", "\x80", "\xff\xff",
		plainNum(api.MaxValue + 1), plainNum(most),
		strings.Repeat("\x80", 9) + "\x01", strings.Repeat("\xff", 9) + "\x01",
		strings.Repeat("\x80", 9) + "\x02", strings.Repeat("\x80", 9) + "\x00",
		strings.Repeat("\x80", 10), strings.Repeat("\x81", 10) + "\x01", strings.Repeat("\xff", 40),
	} {
		for _, size := range []int{1, 2, 3, 4, 7, 100} {
			for _, text := range []string{key + n, key + n + "\x00\x00\x02\x01", "\x00\x00\x00\x01" + key + n} {
				texts := plainCut(text, size)
				for k := range 4 {
					r := run.Run{Order: 1, Len: k, Blocks: upto(len(texts))}
					unread(t, holding(t, size, 0, texts...), r, api.ErrForm)
				}
			}
		}
	}
	for _, n := range []int{1, 127, 128, api.MaxValue} {
		for _, size := range []int{1, 2, 3, 4, 7, 100} {
			texts := plainCut(key+plainNum(n), size)
			r := run.Run{Order: 1, Len: 1, Blocks: upto(len(texts))}
			reads(t, holding(t, size, 0, texts...), r, list(one(n, 1)))
		}
	}
}

// P19.2: n-grams that do not rise, wherever the blocks end.
func TestReadRises(t *testing.T) {
	for _, l := range [][]api.Count{
		list(one(1, 1, 2), one(1, 1, 2)),
		list(one(1, 1, 2), one(1, 1, 1)),
		list(one(1, 2, 0), one(1, 1, 9)),
		list(one(1, 1, 256), one(1, 1, 255)),
		list(one(1, 1, 2), one(1, 1, 3), one(1, 1, 3)),
		list(one(1, 1, 2), one(1, 1, 3), one(1, 1, 2)),
		list(one(1, 1, 2), one(1, 1, 2), one(1, 1, 3)),
	} {
		all := plainBytes(l)
		for size := 1; size <= len(all); size++ {
			for k := range 5 {
				check(t, all, 2, k, plainCut(all, size))
			}
		}
	}
}

// everyText is all texts of up to longest of these bytes.
func everyText(longest int, bytes string) []string {
	all := []string{""}
	for from := 0; len(all[from]) < longest; from++ {
		for i := range len(bytes) {
			all = append(all, all[from]+bytes[i:i+1])
		}
	}
	return all
}

// P19.2: all short texts, as runs of each length.
func TestEveryText(t *testing.T) {
	for i, all := range everyText(8, "\x00\x01\x80") {
		for k := range 3 {
			check(t, all, 1, k, plainCut(all, 1+i%9))
		}
	}
}

// cuts is s in texts, each bit of way that is one a cut.
func cuts(s string, way int) []string {
	var l []string
	last := 0
	for at := 1; at < len(s); at++ {
		if way>>(at-1)&1 == 1 {
			l = append(l, s[last:at])
			last = at
		}
	}
	return append(l, s[last:])
}

// P19.2: what blocks have together counts, however it is cut.
func TestEveryCut(t *testing.T) {
	for _, all := range []string{
		plainBytes(list(one(5, 1), one(300, 2), one(1, 300))),
		plainBytes(list(one(5, 2), one(300, 1))),
		plainBytes(list(one(1, 1), one(1<<30, 2))),
		plainBytes(list(one(1, 1))) + "\x00\x00\x02\x80\x80\x00",
	} {
		for way := range 1 << (len(all) - 1) {
			texts := cuts(all, way)
			for k := 1; k < 4; k++ {
				check(t, all, 1, k, texts)
			}
			check(t, all, 1, 2, slices.Insert(texts, way%(len(texts)+1), ""))
		}
	}
	check(t, "", 1, 0, []string{"", ""})
	check(t, "", 1, 1, []string{"", ""})
}

// P19.2: All is ended early at each n-gram, gone over again, and within itself.
func TestEndedEarly(t *testing.T) {
	s := fresh(t, 4, 100)
	l := some(1, 6, 2, 1000)
	r := write(t, s, 2, l)
	seq := run.All(s, r)
	for stop := 1; stop <= len(l); stop++ {
		var got []api.Count
		for c := range seq {
			got = append(got, c)
			if len(got) == stop {
				break
			}
		}
		if !same(got, l[:stop]) {
			t.Fatalf("ended at %d: %s, not %s", stop, brief(got), brief(l[:stop]))
		}
	}
	k := 0
	for c := range seq {
		if !same(list(c), l[k:k+1]) {
			t.Fatalf("the n-gram %d: %s, not %s", k, brief(c), brief(l[k]))
		}
		if got := gone(t, seq); !same(got, l) {
			t.Fatalf("within itself: %s, not %s", brief(got), brief(l))
		}
		k++
	}
	if k != len(l) {
		t.Fatalf("%d n-grams, not %d", k, len(l))
	}
}

// P19.2: All goes over what is there when the going begins.
func TestGoingBegins(t *testing.T) {
	s := fresh(t, 4, 100)
	r := write(t, s, 2, example())
	seq := run.All(s, r)
	if got := gone(t, seq); !same(got, example()) {
		t.Fatalf("as it was written: %s", brief(got))
	}
	lay(t, s, r.Blocks[1], "\x00\x02\x06\x00")
	if got := gone(t, seq); !same(got, list(one(6, 1, 2), one(1, 1, 3))) {
		t.Fatalf("changed: %s", brief(got))
	}
	lay(t, s, r.Blocks[3], "\x02\x01")
	if got := gone(t, seq); len(got) != 0 {
		t.Fatalf("with an error: %s", brief(got))
	}
	lay(t, s, r.Blocks[3], "\x03\x01")
	drop(t, s, r.Blocks[3])
	if got := gone(t, seq); len(got) != 0 {
		t.Fatalf("one block freed: %s", brief(got))
	}
	drop(t, s, r.Blocks[:3]...)
	write(t, s, 2, list(one(8, 3, 3), one(9, 4, 4)))
	if got := gone(t, seq); !same(got, list(one(8, 3, 3), one(9, 4, 4))) {
		t.Fatalf("another run in the same blocks: %s", brief(got))
	}
}

// P19.2: what is done to the store while All goes does not change the going.
func TestChangedWhileGoing(t *testing.T) {
	for at := range 2 {
		s := fresh(t, 4, 100)
		r := write(t, s, 2, example())
		var got []api.Count
		for c := range run.All(s, r) {
			if len(got) == at {
				frees(t, s, r)
				write(t, s, 2, list(one(8, 3, 3), one(9, 4, 4)))
			}
			got = append(got, c)
		}
		if !same(got, example()) {
			t.Fatalf("changed at the n-gram %d: %s", at, brief(got))
		}
	}
}

// P19.2: Free of a run whose blocks are not all taken, or are there twice, frees
// nothing.
func TestUnfreed(t *testing.T) {
	for _, id := range []int{least, -1, 0, 1, 2, 3, 4, 5, 1 << 40, most} {
		for at := range 5 {
			s := fresh(t, 4, 5)
			r := write(t, s, 2, example())
			r.Blocks = slices.Insert(r.Blocks, at, id)
			unfreed(t, s, r, api.ErrNone)
			r.Blocks = slices.Delete(r.Blocks, at, at+1)
			reads(t, s, r, example())
			frees(t, s, r)
		}
	}
	for at := range 4 {
		s := fresh(t, 4, 5)
		r := write(t, s, 2, example())
		drop(t, s, r.Blocks[at])
		unfreed(t, s, r, api.ErrNone)
	}
	s := holding(t, 4, 1, "0", "1", "2")
	for _, ids := range [][]int{{0, 0}, {0, 1, 0}, {2, 1, 1}, {2, 2, 2}, {3}, {0, 1, 2, 3}} {
		unfreed(t, s, run.Run{Order: 1, Len: 1, Blocks: ids}, api.ErrNone)
	}
}

// P19.2: Free makes just the run's blocks free, in whatever order they are told.
func TestFreed(t *testing.T) {
	s := holding(t, 4, 4, "0", "1", "2", "3", "4", "5")
	frees(t, s, run.Run{})
	frees(t, s, run.Run{Order: 1})
	frees(t, s, run.Run{Order: 1, Len: 1, Blocks: []int{4}})
	frees(t, s, run.Run{Order: 2, Len: 2, Blocks: []int{3, 0, 2}})
	for _, id := range []int{1, 5} {
		if text, e := s.Read(id); text != fmt.Sprint(id) || e != api.OK {
			t.Fatalf("the block %d: %q, %d", id, text, e)
		}
	}
	// What is freed is taken anew, the least number first.
	holds(t, s, write(t, s, 2, example()), []int{0, 2, 3, 4}, plainCut(plainBytes(example()), 4))
}

// P19.2: Free looks at the blocks alone.
func TestFreeBlocksAlone(t *testing.T) {
	for _, r := range []run.Run{{Order: least, Len: least}, {Order: 9, Len: most}, {Order: 0, Len: -1}, {Order: 1, Len: 5}} {
		s := holding(t, 4, 1, "x", "y")
		frees(t, s, r)
		r.Blocks = []int{1, 0}
		frees(t, s, r)
	}
}

// P19.3: runs in one store do not touch each other.
func TestRunsApart(t *testing.T) {
	s := fresh(t, 6, 400)
	lists := map[int][]api.Count{}
	runs := map[int]run.Run{}
	for step := range 400 {
		k := mixed(step, 8)
		if r, there := runs[k]; there {
			reads(t, s, r, lists[k])
			frees(t, s, r)
			delete(runs, k)
			continue
		}
		order := 1 + mixed(step+7, 4)
		lists[k] = some(step, mixed(step+8, 9), order, 400)
		runs[k] = write(t, s, order, lists[k])
		used := 0
		for i := range 8 {
			if r, there := runs[i]; there {
				reads(t, s, r, lists[i])
				used += len(r.Blocks)
			}
		}
		if s.Used() != used {
			t.Fatalf("%d blocks are taken, not %d", s.Used(), used)
		}
	}
}

// P19.1: the list that is written is not kept.
func TestListNotKept(t *testing.T) {
	s := fresh(t, 4, 100)
	l := example()
	r := write(t, s, 2, l)
	for i := range l {
		l[i].G[0], l[i].G[1], l[i].N = 9, 9, 9
		l[i] = one(3, 3, 3)
	}
	reads(t, s, r, example())
}

// P19.1: what lies behind the length of a list is not looked at, nor changed.
func TestBehindLength(t *testing.T) {
	s := fresh(t, 4, 100)
	behind := append(example(), one(0, -1), one(7, 7, 7))
	g := []int{1, 2, -5, 6}
	behind[0].G = g[:2]
	r := write(t, s, 2, behind[:2])
	reads(t, s, r, example())
	if !slices.Equal(g, []int{1, 2, -5, 6}) || !same(behind[2:], list(one(0, -1), one(7, 7, 7))) {
		t.Fatalf("behind the lists: %s, %s", brief(g), brief(behind[2:]))
	}
	ids := append(slices.Clone(r.Blocks), -9, 0)
	r.Blocks = ids[:4]
	reads(t, s, r, example())
	frees(t, s, r)
	if !slices.Equal(ids, []int{0, 1, 2, 3, -9, 0}) {
		t.Fatalf("behind the blocks: %s", brief(ids))
	}
}

// P19.2: a run's blocks, changed by who handed them to All, do not change what it
// goes over.
func TestBlocksNotKept(t *testing.T) {
	s := fresh(t, 4, 100)
	r := write(t, s, 2, example())
	seq := run.All(s, r)
	was := slices.Clone(r.Blocks)
	slices.Reverse(r.Blocks)
	if got := gone(t, seq); !same(got, example()) {
		t.Fatalf("its blocks changed: %s", brief(got))
	}
	for range seq {
		r.Blocks[0] = -1
	}
	if got := gone(t, seq); !same(got, example()) {
		t.Fatalf("its blocks changed: %s", brief(got))
	}
	reads(t, s, run.Run{Order: 2, Len: 2, Blocks: was}, example())
}

// spoil changes all lists of l, and behind them.
func spoil(l []api.Count) {
	for i := range l {
		for j := range l[i].G {
			l[i].G[j] = -7
		}
		_ = append(l[i].G, -8, -8, -8)
	}
}

// P19.2: what is answered shares nothing with what is answered later, nor its
// lists with each other.
func TestAnswersApart(t *testing.T) {
	s := fresh(t, 4, 100)
	r := write(t, s, 2, example())
	got, _ := run.Read(s, r)
	_ = append(got[0].G, -8, -8)
	got[0].G[1] = -7
	if !slices.Equal(got[1].G, []int{1, 3}) {
		t.Fatalf("the second n-gram is %s", brief(got[1].G))
	}
	spoil(got)
	reads(t, s, r, example())
	seq := run.All(s, r)
	spoil(gone(t, seq))
	var all []api.Count
	for c := range seq {
		all = append(all, copied(list(c))...)
		spoil(list(c))
	}
	if !same(all, example()) {
		t.Fatalf("spoilt while it goes: %s", brief(all))
	}
	reads(t, s, r, example())
	q := write(t, s, 2, example())
	r.Blocks[0] = -1
	reads(t, s, q, example())
}

// P19.1, P19.2: nil and empty lists are the same.
func TestNilAndEmpty(t *testing.T) {
	s := fresh(t, 4, 10)
	for _, l := range [][]api.Count{nil, {}} {
		r := write(t, s, 3, l)
		holds(t, s, r, nil, nil)
		for _, blocks := range [][]int{nil, {}} {
			r.Blocks = blocks
			reads(t, s, r, nil)
			frees(t, s, r)
		}
	}
	for _, g := range [][]int{nil, {}} {
		unwritten(t, s, 1, list(api.Count{G: g, N: 1}), api.ErrArg)
	}
}
