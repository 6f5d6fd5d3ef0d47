package block_test

import (
	"locution/api"
	"locution/block"
	"slices"
	"strconv"
	"strings"
	"testing"
)

// least and most are the ends of what an int may be.
const (
	least = -1 << 63
	most  = 1<<63 - 1
)

// mixed is a number from 0 to below bound that looks as if by chance; of each i
// it is the same each time.
func mixed(i, bound int) int {
	x := (uint64(i) + 1) * 0x9e3779b97f4a7c15
	x ^= x >> 31
	x *= 0xbf58476d1ce4e5b9
	x ^= x >> 29
	return int(x % uint64(bound))
}

// chance is a text of n bytes of any kind that looks as if by chance.
func chance(seed, n int) string {
	b := make([]byte, n)
	for i := range b {
		b[i] = byte(mixed(seed*1000003+i, 256))
	}
	return string(b)
}

// short is a text as a failure tells it.
func short(s string) string {
	if len(s) > 40 {
		return strconv.Quote(s[:40]) + ".. of " + strconv.Itoa(len(s)) + " bytes"
	}
	return strconv.Quote(s)
}

// fresh is a new store that must be there.
func fresh(t *testing.T, size, blocks int) *block.Store {
	t.Helper()
	s, e := block.New(size, blocks)
	if s == nil || e != api.OK {
		t.Fatalf("New of %d, %d: %v, %d", size, blocks, s, e)
	}
	return s
}

// refused fails, if there is a store of these numbers.
func refused(t *testing.T, size, blocks int) {
	t.Helper()
	if s, e := block.New(size, blocks); s != nil || e != api.ErrArg {
		t.Fatalf("New of %d, %d: %v, %d, not nil and %d", size, blocks, s, e, api.ErrArg)
	}
}

// alloc fails, if Alloc tells something else than the block id.
func alloc(t *testing.T, s *block.Store, id int) {
	t.Helper()
	if got, e := s.Alloc(); got != id || e != api.OK {
		t.Fatalf("Alloc: %d, %d, not %d and no error", got, e, id)
	}
}

// full fails, if Alloc tells something else than that no block is free.
func full(t *testing.T, s *block.Store) {
	t.Helper()
	if got, e := s.Alloc(); got != 0 || e != api.ErrFull {
		t.Fatalf("Alloc of a full store: %d, %d, not 0 and %d", got, e, api.ErrFull)
	}
}

// write fails, if Write tells something else.
func write(t *testing.T, s *block.Store, id int, text string, want api.Errno) {
	t.Helper()
	if e := s.Write(id, text); e != want {
		t.Fatalf("Write of %d, %s: %d, not %d", id, short(text), e, want)
	}
}

// read fails, if Read tells something else than this text.
func read(t *testing.T, s *block.Store, id int, want string) {
	t.Helper()
	if text, e := s.Read(id); text != want || e != api.OK {
		t.Fatalf("Read of %d: %s, %d, not %s and no error", id, short(text), e, short(want))
	}
}

// unread fails, if Read tells something else than this error.
func unread(t *testing.T, s *block.Store, id int, want api.Errno) {
	t.Helper()
	if text, e := s.Read(id); text != "" || e != want {
		t.Fatalf("Read of %d: %s, %d, not the empty text and %d", id, short(text), e, want)
	}
}

// free fails, if Free tells something else.
func free(t *testing.T, s *block.Store, id int, want api.Errno) {
	t.Helper()
	if e := s.Free(id); e != want {
		t.Fatalf("Free of %d: %d, not %d", id, e, want)
	}
}

// counts fails, if the store tells other numbers.
func counts(t *testing.T, s *block.Store, size, used, left, peak int) {
	t.Helper()
	got := [4]int{s.Size(), s.Used(), s.Left(), s.Peak()}
	if want := [4]int{size, used, left, peak}; got != want {
		t.Fatalf("Size, Used, Left, Peak: %v, not %v", got, want)
	}
}

// none fails, if a call of the block id tells something else than that it is not
// taken, or changes what the store counts.
func none(t *testing.T, s *block.Store, id int) {
	t.Helper()
	size, used, left, peak := s.Size(), s.Used(), s.Left(), s.Peak()
	unread(t, s, id, api.ErrNone)
	write(t, s, id, "", api.ErrNone)
	write(t, s, id, strings.Repeat("x", size), api.ErrNone)
	write(t, s, id, strings.Repeat("x", size+1), api.ErrNone)
	free(t, s, id, api.ErrNone)
	unread(t, s, id, api.ErrNone)
	counts(t, s, size, used, left, peak)
}

// taken is a new store of which the first n blocks are taken.
func taken(t *testing.T, size, blocks, n int) *block.Store {
	t.Helper()
	s := fresh(t, size, blocks)
	for id := range n {
		alloc(t, s, id)
	}
	return s
}

// plain is a store told plainly: the texts of the blocks that are taken.
type plain struct {
	size, most, peak int
	texts            map[int]string
}

// plainStore is a plain store of which no block is taken.
func plainStore(size, blocks int) *plain {
	return &plain{size: size, most: blocks, texts: map[int]string{}}
}

// alloc takes the first block from 0 on that is not taken.
func (p *plain) alloc() (int, api.Errno) {
	for id := range p.most {
		if _, there := p.texts[id]; !there {
			p.texts[id] = ""
			p.peak = max(p.peak, len(p.texts))
			return id, api.OK
		}
	}
	return 0, api.ErrFull
}

// write gives a taken block a text.
func (p *plain) write(id int, text string) api.Errno {
	if _, there := p.texts[id]; !there {
		return api.ErrNone
	}
	if len(text) > p.size {
		return api.ErrLong
	}
	p.texts[id] = text
	return api.OK
}

// free makes a taken block free.
func (p *plain) free(id int) api.Errno {
	if _, there := p.texts[id]; !there {
		return api.ErrNone
	}
	delete(p.texts, id)
	return api.OK
}

// act is one call: alloc, or write or free of a block.
type act struct {
	kind string
	id   int
	text string
}

// do does an act on both stores, which must tell the same.
func do(t *testing.T, s *block.Store, p *plain, a act) {
	t.Helper()
	switch a.kind {
	case "alloc":
		want, fault := p.alloc()
		if id, e := s.Alloc(); id != want || e != fault {
			t.Fatalf("Alloc: %d, %d, not %d, %d", id, e, want, fault)
		}
	case "write":
		write(t, s, a.id, a.text, p.write(a.id, a.text))
	case "free":
		free(t, s, a.id, p.free(a.id))
	}
}

// same fails, if the store tells something else than the plain one.
func same(t *testing.T, s *block.Store, p *plain) {
	t.Helper()
	counts(t, s, p.size, len(p.texts), p.most-len(p.texts), p.peak)
	for id := -1; id <= p.most; id++ {
		if text, there := p.texts[id]; there {
			read(t, s, id, text)
		} else {
			unread(t, s, id, api.ErrNone)
		}
	}
}

// each does all rows of n of these acts on fresh stores; behind each row both
// stores must be the same.
func each(t *testing.T, size, blocks, n int, acts []act) {
	t.Helper()
	rows := 1
	for range n {
		rows *= len(acts)
	}
	for row := range rows {
		s, p := fresh(t, size, blocks), plainStore(size, blocks)
		for range n {
			do(t, s, p, acts[row%len(acts)])
			row /= len(acts)
		}
		same(t, s, p)
	}
}

// P17.1, P17.2: the chapter's example.
func TestExample(t *testing.T) {
	s := fresh(t, 4, 2)
	alloc(t, s, 0)
	alloc(t, s, 1)
	free(t, s, 0, api.OK)
	alloc(t, s, 0)
	counts(t, s, 4, 2, 0, 2)
}

// P17.1: New of the sizes and numbers of blocks at the bounds.
func TestNewBounds(t *testing.T) {
	if block.MaxSize != 65536 || block.MaxMost != 1048576 {
		t.Fatalf("MaxSize %d, MaxMost %d", block.MaxSize, block.MaxMost)
	}
	for _, size := range []int{1, 2, 4096, block.MaxSize - 1, block.MaxSize} {
		for _, blocks := range []int{1, 2, 4096, block.MaxMost - 1, block.MaxMost} {
			counts(t, fresh(t, size, blocks), size, 0, blocks, 0)
		}
	}
	wrongSizes := []int{least, least + 1, -block.MaxSize, -1, 0, block.MaxSize + 1, block.MaxMost, 1 << 32, 1<<32 + 1, most - 1, most}
	wrongMosts := []int{least, least + 1, -block.MaxMost, -1, 0, block.MaxMost + 1, 1 << 32, 1<<32 + 1, most - 1, most}
	for _, size := range wrongSizes {
		refused(t, size, 1)
		refused(t, size, 2)
		refused(t, size, block.MaxMost)
		for _, blocks := range wrongMosts {
			refused(t, size, blocks)
		}
	}
	for _, blocks := range wrongMosts {
		refused(t, 1, blocks)
		refused(t, 2, blocks)
		refused(t, block.MaxSize, blocks)
	}
}

// P17.1: the blocks of a fresh store are taken from 0 on, until none is free.
func TestAllocAll(t *testing.T) {
	for _, blocks := range []int{1, 2, 3, 63, 64, 65, 127, 128, 129, 1000, 4097} {
		s := fresh(t, 3, blocks)
		for id := range blocks {
			none(t, s, id)
			alloc(t, s, id)
			read(t, s, id, "")
			counts(t, s, 3, id+1, blocks-id-1, id+1)
		}
		full(t, s)
		full(t, s)
		counts(t, s, 3, blocks, 0, blocks)
		read(t, s, blocks-1, "")
		none(t, s, blocks)
	}
}

// P17.1: of several blocks that are free the one with the least number is taken,
// in whatever order they were freed.
func TestAllocLeast(t *testing.T) {
	for seed := range 300 {
		blocks := 1 + mixed(seed, 200)
		open := mixed(seed+1000, blocks+1)
		s := taken(t, 1, blocks, open)
		var freed []int
		for k := range open {
			// Each number once, as 7919 is a prime.
			id := (k*7919 + seed) % open
			if mixed(seed*500+k, 3) < 2 {
				free(t, s, id, api.OK)
				freed = append(freed, id)
			}
		}
		slices.Sort(freed)
		for _, id := range freed {
			alloc(t, s, id)
		}
		for id := open; id < blocks; id++ {
			alloc(t, s, id)
		}
		full(t, s)
	}
}

// orders visits all orders of the numbers of l, of which the first k stay.
func orders(l []int, k int, visit func([]int)) {
	if k == len(l) {
		visit(l)
		return
	}
	for i := k; i < len(l); i++ {
		l[k], l[i] = l[i], l[k]
		orders(l, k+1, visit)
		l[k], l[i] = l[i], l[k]
	}
}

// P17.1: all sets of up to six blocks, freed in all orders, are taken again from
// the least one on, those that never were taken behind them.
func TestAllocOrders(t *testing.T) {
	for set := range 1 << 6 {
		var ids []int
		for id := range 6 {
			if set>>id&1 == 1 {
				ids = append(ids, id)
			}
		}
		want := append(slices.Clone(ids), 6, 7)
		orders(ids, 0, func(order []int) {
			s := taken(t, 1, 8, 6)
			for _, id := range order {
				free(t, s, id, api.OK)
			}
			for _, id := range want {
				alloc(t, s, id)
			}
			full(t, s)
		})
	}
}

// P17.1: a block that was freed is taken ahead of such as never were, though the
// others come and go in between.
func TestAllocBetween(t *testing.T) {
	s := taken(t, 1, 9, 5)
	free(t, s, 3, api.OK)
	free(t, s, 1, api.OK)
	alloc(t, s, 1)
	free(t, s, 4, api.OK)
	free(t, s, 0, api.OK)
	alloc(t, s, 0)
	alloc(t, s, 3)
	alloc(t, s, 4)
	alloc(t, s, 5)
	free(t, s, 5, api.OK)
	free(t, s, 2, api.OK)
	alloc(t, s, 2)
	alloc(t, s, 5)
	alloc(t, s, 6)
	counts(t, s, 1, 7, 2, 7)
}

// P17.1: a block that is taken anew has the empty text, however long its text was.
func TestTakenAnewIsEmpty(t *testing.T) {
	for _, size := range []int{1, 2, 7, 64, 300, block.MaxSize} {
		s := taken(t, size, 3, 3)
		for _, n := range []int{0, 1, size / 2, size - 1, size} {
			write(t, s, 1, chance(n, n), api.OK)
			free(t, s, 1, api.OK)
			unread(t, s, 1, api.ErrNone)
			alloc(t, s, 1)
			read(t, s, 1, "")
			write(t, s, 1, "\x00", api.OK)
			read(t, s, 1, "\x00")
			write(t, s, 1, "", api.OK)
			read(t, s, 1, "")
		}
	}
}

// P17.1: texts of all lengths up to the size, over texts of all such lengths; one
// more byte is refused, and the text stays as it was.
func TestWriteLengths(t *testing.T) {
	for size := 1; size <= 12; size++ {
		s := taken(t, size, 2, 1)
		for n := range size + 1 {
			for m := range size + 1 {
				old, text := chance(n, n), chance(100+m, m)
				write(t, s, 0, old, api.OK)
				read(t, s, 0, old)
				write(t, s, 0, text, api.OK)
				read(t, s, 0, text)
				write(t, s, 0, chance(m, size+1), api.ErrLong)
				read(t, s, 0, text)
				write(t, s, 0, chance(m, 2*size+1), api.ErrLong)
				read(t, s, 0, text)
			}
		}
		counts(t, s, size, 1, 1, 1)
	}
}

// P17.1: texts are bytes of any kind, told as they are.
func TestWriteBytes(t *testing.T) {
	s := taken(t, 256, 1, 1)
	var all []byte
	for b := range 256 {
		all = append(all, byte(b))
		write(t, s, 0, string([]byte{byte(b)}), api.OK)
		read(t, s, 0, string([]byte{byte(b)}))
		write(t, s, 0, string(all), api.OK)
		read(t, s, 0, string(all))
	}
	for _, text := range []string{"\x00", "\x00\x00\x00", "a\x00", "\x00a", "\xff\xfe", "\xc3", "ä", "\n", " "} {
		write(t, s, 0, text, api.OK)
		read(t, s, 0, text)
	}
}

// P17.1: the size counts bytes, not letters.
func TestSizeIsBytes(t *testing.T) {
	s := taken(t, 3, 1, 1)
	write(t, s, 0, "äb", api.OK)
	read(t, s, 0, "äb")
	write(t, s, 0, "ää", api.ErrLong)
	read(t, s, 0, "äb")
}

// P17.1: blocks that are free, that never were taken, and numbers that are no
// block's: ErrNone, ahead of ErrLong.
func TestNone(t *testing.T) {
	outside := []int{least, least + 1, -1 << 32, -6, -5, -2, -1, 5, 6, 7, 63, 64, 1<<32 - 1, 1 << 32, 1<<32 + 1, most - 1, most}
	s := fresh(t, 2, 5)
	for id := range 5 {
		none(t, s, id)
	}
	for _, id := range outside {
		none(t, s, id)
	}
	alloc(t, s, 0)
	alloc(t, s, 1)
	alloc(t, s, 2)
	write(t, s, 0, "a", api.OK)
	write(t, s, 1, "b", api.OK)
	write(t, s, 2, "cc", api.OK)
	free(t, s, 1, api.OK)
	for _, id := range append(outside, 1, 3, 4) {
		none(t, s, id)
	}
	read(t, s, 0, "a")
	read(t, s, 2, "cc")
	alloc(t, s, 1)
	alloc(t, s, 3)
	alloc(t, s, 4)
	read(t, s, 1, "")
	for _, id := range outside {
		none(t, s, id)
	}
	full(t, s)
	read(t, s, 0, "a")
	read(t, s, 1, "")
	read(t, s, 2, "cc")
	counts(t, s, 2, 5, 0, 5)
}

// P17.1: a block that is freed twice is free once.
func TestFreeTwice(t *testing.T) {
	s := taken(t, 1, 4, 3)
	free(t, s, 1, api.OK)
	free(t, s, 1, api.ErrNone)
	free(t, s, 1, api.ErrNone)
	counts(t, s, 1, 2, 2, 3)
	alloc(t, s, 1)
	alloc(t, s, 3)
	full(t, s)
	free(t, s, 3, api.OK)
	free(t, s, 3, api.ErrNone)
	free(t, s, 0, api.OK)
	free(t, s, 3, api.ErrNone)
	alloc(t, s, 0)
	alloc(t, s, 3)
	full(t, s)
}

// P17.2: what a store counts, as blocks come and go: Peak rises just where more
// are taken than ever, and never falls.
func TestCounts(t *testing.T) {
	s := fresh(t, 8, 4)
	counts(t, s, 8, 0, 4, 0)
	free(t, s, 0, api.ErrNone)
	counts(t, s, 8, 0, 4, 0)
	alloc(t, s, 0)
	counts(t, s, 8, 1, 3, 1)
	free(t, s, 0, api.OK)
	counts(t, s, 8, 0, 4, 1)
	alloc(t, s, 0)
	counts(t, s, 8, 1, 3, 1)
	alloc(t, s, 1)
	alloc(t, s, 2)
	counts(t, s, 8, 3, 1, 3)
	free(t, s, 0, api.OK)
	free(t, s, 2, api.OK)
	counts(t, s, 8, 1, 3, 3)
	alloc(t, s, 0)
	counts(t, s, 8, 2, 2, 3)
	alloc(t, s, 2)
	counts(t, s, 8, 3, 1, 3)
	alloc(t, s, 3)
	counts(t, s, 8, 4, 0, 4)
	full(t, s)
	counts(t, s, 8, 4, 0, 4)
	write(t, s, 3, "abc", api.OK)
	write(t, s, 3, "abcdefghi", api.ErrLong)
	counts(t, s, 8, 4, 0, 4)
	for id := range 4 {
		free(t, s, id, api.OK)
		counts(t, s, 8, 3-id, 1+id, 4)
	}
	alloc(t, s, 0)
	counts(t, s, 8, 1, 3, 4)
}

// P17.1, P17.2, P17.3: all rows of a few acts, held against a plain store.
func TestAllRows(t *testing.T) {
	var comeAndGo, all []act
	comeAndGo = append(comeAndGo, act{kind: "alloc"})
	for id := range 3 {
		comeAndGo = append(comeAndGo, act{"free", id, ""})
	}
	each(t, 1, 3, 7, comeAndGo)
	each(t, 1, 2, 6, comeAndGo)
	for id := range 2 {
		for _, text := range []string{"", "a", "bb", "ccc"} {
			all = append(all, act{"write", id, text})
		}
		all = append(all, act{"free", id, ""})
	}
	all = append(all, act{kind: "alloc"})
	each(t, 2, 2, 5, all)
	each(t, 2, 1, 4, all)
}

// someAct is an act that looks as if by chance.
func someAct(seed, size, blocks int) act {
	id := mixed(seed, blocks+2) - 1
	switch mixed(seed+1<<40, 5) {
	case 0, 1:
		return act{kind: "alloc"}
	case 2:
		return act{"free", id, ""}
	}
	return act{"write", id, chance(seed, mixed(seed+1<<41, size+2))}
}

// P17.1, P17.2, P17.3: two stores that are used in turn, each held against its own
// plain store behind each act: neither blocks nor stores touch each other.
func TestAgainstPlain(t *testing.T) {
	for seed := range 60 {
		size, blocks := 1+mixed(seed, 20), 1+mixed(seed+100, 12)
		s1, p1 := fresh(t, size, blocks), plainStore(size, blocks)
		s2, p2 := fresh(t, size, blocks), plainStore(size, blocks)
		for k := range 150 {
			do(t, s1, p1, someAct(seed*1000+k, size, blocks))
			same(t, s1, p1)
			same(t, s2, p2)
			do(t, s2, p2, someAct(1<<30+seed*1000+k, size, blocks))
			same(t, s1, p1)
			same(t, s2, p2)
		}
	}
}

// P17.3: what Read told stays as it is, whatever is done behind it.
func TestReadStays(t *testing.T) {
	s := taken(t, 50, 3, 3)
	var told, copies []string
	for k := range 400 {
		id := mixed(k, 3)
		switch mixed(k+5000, 4) {
		case 0:
			free(t, s, id, api.OK)
			alloc(t, s, id)
		default:
			write(t, s, id, chance(k, mixed(k+9000, 51)), api.OK)
		}
		for id := range 3 {
			text, _ := s.Read(id)
			told, copies = append(told, text), append(copies, strings.Clone(text))
		}
	}
	if !slices.Equal(told, copies) {
		t.Fatal("a text that was told has changed")
	}
}

// P17.3: a text stays while all other blocks are written, freed and taken.
func TestTextStays(t *testing.T) {
	const blocks = 40
	s := taken(t, 30, blocks, blocks)
	for kept := range blocks {
		text := chance(kept, 30)
		write(t, s, kept, text, api.OK)
		for id := range blocks {
			if id == kept {
				continue
			}
			write(t, s, id, chance(id+kept, 30), api.OK)
			free(t, s, id, api.OK)
			read(t, s, kept, text)
			alloc(t, s, id)
			write(t, s, id, "other", api.OK)
			read(t, s, kept, text)
			read(t, s, kept, text)
		}
	}
}

// P17.3: a store grows, and the texts of the blocks that were taken ahead stay.
func TestTextsStayAsStoreGrows(t *testing.T) {
	const blocks = 3000
	s := fresh(t, 8, blocks)
	for id := range blocks {
		alloc(t, s, id)
		write(t, s, id, strconv.Itoa(id), api.OK)
	}
	for id := range blocks {
		read(t, s, id, strconv.Itoa(id))
	}
}

// P17.1, P17.2, P17.3: a store of the greatest size, and of the greatest number of
// blocks: all of them taken, with texts of their own, freed, and taken again.
func TestGreatest(t *testing.T) {
	s := fresh(t, block.MaxSize, block.MaxMost)
	for id := range block.MaxMost {
		alloc(t, s, id)
		write(t, s, id, strconv.Itoa(id), api.OK)
	}
	full(t, s)
	none(t, s, block.MaxMost)
	counts(t, s, block.MaxSize, block.MaxMost, 0, block.MaxMost)
	ends := []int{0, 1, 65535, 65536, block.MaxMost - 2, block.MaxMost - 1}
	for _, id := range ends {
		write(t, s, id, chance(id, block.MaxSize), api.OK)
		write(t, s, id, chance(id+1, block.MaxSize+1), api.ErrLong)
	}
	for id := range block.MaxMost {
		if slices.Contains(ends, id) {
			read(t, s, id, chance(id, block.MaxSize))
		} else {
			read(t, s, id, strconv.Itoa(id))
		}
	}
	for k := range block.MaxMost {
		free(t, s, (k*5+3)%block.MaxMost, api.OK)
	}
	counts(t, s, block.MaxSize, 0, block.MaxMost, block.MaxMost)
	for id := range block.MaxMost {
		alloc(t, s, id)
		read(t, s, id, "")
	}
	full(t, s)
}

// P17.1, P17.2: nil tells ErrState ahead of all else, and 0.
func TestNil(t *testing.T) {
	var s *block.Store
	counts(t, s, 0, 0, 0, 0)
	if id, e := s.Alloc(); id != 0 || e != api.ErrState {
		t.Fatalf("Alloc of nil: %d, %d", id, e)
	}
	for _, id := range []int{least, -1, 0, 1, block.MaxMost - 1, block.MaxMost, most} {
		for _, n := range []int{0, 1, block.MaxSize, block.MaxSize + 1} {
			write(t, s, id, strings.Repeat("x", n), api.ErrState)
		}
		unread(t, s, id, api.ErrState)
		free(t, s, id, api.ErrState)
	}
	counts(t, s, 0, 0, 0, 0)
}
