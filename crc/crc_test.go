package crc

import (
	"fmt"
	"hash/crc32"
	"locution/api"
	"math"
	"math/bits"
	"slices"
	"strconv"
	"strings"
	"testing"
)

const poly = 0x814141AB

// mixed is a number that looks as if by chance; of each i it is the same each
// time.
func mixed(i int) uint64 {
	x := (uint64(i) + 1) * 0x9e3779b97f4a7c15
	x ^= x >> 31
	x *= 0xbf58476d1ce4e5b9
	return x ^ x>>29
}

// chance is a text of n bytes that looks as if by chance.
func chance(seed, n int) string {
	b := make([]byte, n)
	for i := range b {
		b[i] = byte(mixed(seed*1000003+i) >> 17)
	}
	return string(b)
}

// together is two texts of bits put together by exclusive or.
func together(a, b string) string {
	out := []byte(a)
	for i := range out {
		out[i] = '0' + (a[i]^b[i])&1
	}
	return string(out)
}

// plainMore is the sum told bit by bit, as the chapter does, with the bits as a
// text, the highest first.
func plainMore(c uint32, s string) uint32 {
	ones, by := strings.Repeat("1", 32), fmt.Sprintf("%032b", poly)
	now := together(fmt.Sprintf("%032b", c), ones)
	for i := range len(s) {
		for _, bit := range []byte(fmt.Sprintf("%08b", s[i])) {
			out := now[0]
			now = now[1:] + "0"
			if out != bit {
				now = together(now, by)
			}
		}
	}
	v, err := strconv.ParseUint(together(now, ones), 2, 32)
	if err != nil {
		panic(err)
	}
	return uint32(v)
}

// libraryMore is the sum told by the library, which takes the lowest bits first:
// all is handed in and taken back turned end for end.
func libraryMore(c uint32, s string) uint32 {
	b := []byte(s)
	for i := range b {
		b[i] = bits.Reverse8(b[i])
	}
	table := crc32.MakeTable(bits.Reverse32(poly))
	return bits.Reverse32(crc32.Update(bits.Reverse32(c), table, b))
}

// plainSeal is the sum's bytes, told by division.
func plainSeal(s string) string {
	rest, out := plainMore(0, s), make([]byte, 4)
	for i := 3; i >= 0; i-- {
		out[i] = byte(rest % 256)
		rest /= 256
	}
	return string(out)
}

// sums are those from which More may go on: none, all bits, single ones, and
// some by chance.
func sums() []uint32 {
	l := []uint32{0, 1, math.MaxUint32, math.MaxUint32 - 1, math.MaxInt32, 1 << 31, poly, ^uint32(poly)}
	for k := range 32 {
		l = append(l, 1<<k, ^uint32(1<<k), uint32(mixed(k)))
	}
	return l
}

// texts are of no byte, of the edges' bytes, and of all lengths up to some.
func texts() []string {
	l := []string{"", "a", "ab", "abc", "123456789", "löcution", "\x00", "\xff", "\x01", "\x80", "\x7f",
		"\x00\x00\x00\x00", "\xff\xff\xff\xff", "\x00\xff", "\xff\x00", "\x00\x00\x00\x00a", "a\x00\x00\x00\x00"}
	for n := range 40 {
		l = append(l, chance(n, n), strings.Repeat("\x00", n), strings.Repeat("\xff", n))
	}
	return l
}

// turned is s with those bits turned, counted from the first byte's highest on.
func turned(s string, places ...int) string {
	b := []byte(s)
	for _, i := range places {
		b[i/8] ^= 128 >> (i % 8)
	}
	return string(b)
}

// within is s with those of 32 bits from the place at on turned that are ones in
// pattern, the highest first. Places behind the end are left out.
func within(s string, at int, pattern uint32) string {
	var places []int
	for k := range 32 {
		if pattern<<k>>31 == 1 && at+k < len(s)*8 {
			places = append(places, at+k)
		}
	}
	return turned(s, places...)
}

// opens fails, if Open tells something else.
func opens(t *testing.T, what, s, want string, e api.Errno) {
	t.Helper()
	if got, err := Open(s); got != want || err != e {
		t.Errorf("Open of %s (%q): %q, %d, not %q, %d", what, s, got, err, want, e)
	}
}

// The chapter's example.
func TestExample(t *testing.T) {
	if got := Of(""); got != 0 {
		t.Errorf("Of the empty text: %x", got)
	}
	if got := Seal(""); got != "\x00\x00\x00\x00" {
		t.Errorf("Seal of the empty text: %q", got)
	}
}

// P12.1: a value known outside: with that divisor, from all noughts on and not
// turned round at the end, 123456789 has 3010BF7F.
func TestKnown(t *testing.T) {
	if got := ^More(math.MaxUint32, "123456789"); got != 0x3010BF7F {
		t.Errorf("123456789: %x", got)
	}
}

// P12.1: More from all sums on.
func TestMore(t *testing.T) {
	for _, c := range sums() {
		if got := More(c, ""); got != c {
			t.Errorf("More(%x) of no bytes: %x", c, got)
		}
		for b := range 256 {
			s := string([]byte{byte(b)})
			if got, want := More(c, s), plainMore(c, s); got != want {
				t.Errorf("More(%x) of the byte %d: %x, not %x", c, b, got, want)
			}
		}
	}
	for _, c := range sums()[:20] {
		for _, s := range texts() {
			if got, want := More(c, s), plainMore(c, s); got != want {
				t.Errorf("More(%x) of %q: %x, not %x", c, s, got, want)
			}
		}
	}
}

// P12.1: long texts, by the library.
func TestLong(t *testing.T) {
	for i, n := range []int{255, 256, 257, 1000, 4096, 65537, 1 << 20} {
		for _, c := range []uint32{0, 1 << 31, math.MaxUint32, uint32(mixed(n))} {
			for _, s := range []string{chance(i, n), strings.Repeat("\x00", n), strings.Repeat("\xff", n)} {
				if got, want := More(c, s), libraryMore(c, s); got != want {
					t.Errorf("More(%x) of %d bytes: %x, not %x", c, n, got, want)
				}
			}
		}
	}
	for _, s := range texts() {
		if plain, library := plainMore(0, s), libraryMore(0, s); plain != library {
			t.Errorf("the test's own sums of %q are unlike: %x, %x", s, plain, library)
		}
	}
}

// P12.1: Of no text, of one, and of several.
func TestOf(t *testing.T) {
	lists := [][]string{nil, {}, {""}, {"", ""}, {"", "", "", ""}, {"a"}, {"a", "b"}, {"", "a"}, {"a", ""},
		{"", "a", "", "b", ""}, {"a", "", "", "b"}, {"ab", "c"}, {"a", "bc"}, {"b", "a"}, {"\x00"}, {"\x00", "\x00"},
		{"\xff", "", "\x00"}, texts()}
	for _, l := range lists {
		kept := slices.Clone(l)
		if got, want := Of(l...), plainMore(0, strings.Join(l, "")); got != want {
			t.Errorf("Of %q: %x, not %x", l, got, want)
		}
		if !slices.Equal(l, kept) {
			t.Errorf("Of has changed %q to %q", kept, l)
		}
	}
	if Of() != 0 {
		t.Errorf("Of no texts: %x", Of())
	}
	for _, s := range texts() {
		if got, want := Of(s), plainMore(0, s); got != want {
			t.Errorf("Of %q: %x, not %x", s, got, want)
		}
	}
}

// P12.2: what a text is sealed as, and that it is opened as it was.
func TestSeal(t *testing.T) {
	for _, s := range texts() {
		sealed := Seal(s)
		if want := s + plainSeal(s); sealed != want {
			t.Errorf("Seal of %q: %q, not %q", s, sealed, want)
		}
		opens(t, "a sealed text", sealed, s, api.OK)
		opens(t, "a text sealed twice", Seal(sealed), sealed, api.OK)
	}
	for b := range 256 {
		s := string([]byte{byte(b)})
		if got, want := Seal(s), s+plainSeal(s); got != want {
			t.Errorf("Seal of the byte %d: %q, not %q", b, got, want)
		}
	}
	long := chance(1, 1<<20)
	opens(t, "a long text", Seal(long), long, api.OK)
}

// P12.2: fewer than four bytes.
func TestShort(t *testing.T) {
	for _, s := range []string{"", "\x00", "a", "\xff", "\x00\x00", "ab", "\xff\xff", "\x00\x00\x00", "abc", "\xff\xff\xff"} {
		opens(t, "few bytes", s, "", api.ErrShort)
	}
	for n := range 4 {
		opens(t, "a part of a seal", Seal("")[:n], "", api.ErrShort)
		opens(t, "a part of a sealed text", Seal("abc")[:n], "", api.ErrShort)
	}
}

// P12.2: four bytes are a seal alone.
func TestFour(t *testing.T) {
	opens(t, "four bytes 0", "\x00\x00\x00\x00", "", api.OK)
	for _, s := range []string{"abcd", "\xff\xff\xff\xff", "\x81\x41\x41\xab", "\x00\x00\x00\x01", "\x01\x00\x00\x00", "0000"} {
		opens(t, "four bytes", s, "", api.ErrSum)
	}
	for i := range 4 {
		for b := 1; b < 256; b++ {
			s := []byte{0, 0, 0, 0}
			s[i] = byte(b)
			opens(t, "four bytes", string(s), "", api.ErrSum)
		}
	}
}

// P12.2: the seal of another text, in another order, or with bytes more or fewer.
func TestWrongSeal(t *testing.T) {
	for _, s := range texts() {
		sealed, sum := Seal(s), []byte(plainSeal(s))
		if slices.Reverse(sum); string(sum) != plainSeal(s) {
			opens(t, "a seal with the lowest byte first", s+string(sum), "", api.ErrSum)
		}
		for _, other := range []string{"b", "\x00", "zz", s + "a", s + "\x00"} {
			if plainSeal(other) != plainSeal(s) {
				opens(t, "another text's seal", s+plainSeal(other), "", api.ErrSum)
			}
		}
		changed := []string{sealed + "\x00", sealed + "\xff", sealed + "a", "\x00" + sealed, "\xff" + sealed,
			"a" + sealed, sealed[:len(sealed)-1], sealed[1:], sealed[:len(s)] + sealed[len(s)+1:]}
		for _, c := range changed {
			e := api.ErrSum
			if len(c) < 4 {
				e = api.ErrShort
			} else if n := len(c) - 4; c[n:] == plainSeal(c[:n]) {
				opens(t, "a byte more or fewer", c, c[:n], api.OK)
				continue
			}
			opens(t, "a byte more or fewer", c, "", e)
		}
	}
	for _, s := range []string{"abc", "hello", chance(3, 20)} {
		sealed := Seal(s)
		opens(t, "a byte fewer", sealed[:len(sealed)-1], "", api.ErrSum)
		opens(t, "the first byte gone", sealed[1:], "", api.ErrSum)
		opens(t, "a byte more", sealed+"\x00", "", api.ErrSum)
	}
}

// P12.3: sums go on from any cut.
func TestGoOn(t *testing.T) {
	for _, s := range texts() {
		for n := range len(s) + 1 {
			a, b := s[:n], s[n:]
			want := plainMore(0, s)
			if got := More(Of(a), b); got != want {
				t.Errorf("More of Of %q, and %q: %x, not %x", a, b, got, want)
			}
			if got := Of(a, b); got != want {
				t.Errorf("Of %q, %q: %x, not %x", a, b, got, want)
			}
		}
	}
}

// patterns are bits within 32 in a row, one at least: single ones, two of any
// distance, all of any number, and some by chance.
func patterns() []uint32 {
	l := []uint32{poly, poly >> 1, poly>>1 | 1<<31, 0x55555555, 0xAAAAAAAA, 0xFF00FF00, 0x00FF00FF}
	for k := range 32 {
		l = append(l, 1<<k, 1<<31|1<<k, math.MaxUint32<<k, math.MaxUint32>>k, uint32(mixed(k))|1)
	}
	return l
}

// P12.3: bits turned at every place, across the seal's first byte and within it.
func TestTurned(t *testing.T) {
	for _, s := range []string{"", "a", "\x00", "\xff", "abc", "hello", chance(5, 12), strings.Repeat("\x00", 8)} {
		sealed := Seal(s)
		for i := range len(sealed) * 8 {
			opens(t, fmt.Sprintf("a text with the bit %d turned", i), turned(sealed, i), "", api.ErrSum)
		}
		for at := range len(sealed)*8 - 31 {
			for _, p := range patterns() {
				opens(t, fmt.Sprintf("a text with %032b turned from the bit %d on", p, at), within(sealed, at, p), "", api.ErrSum)
			}
		}
		opens(t, "a text with nothing turned", within(sealed, 0, 0), s, api.OK)
	}
}

// P12.3: all bits within 12 in a row, at every place.
func TestTurnedFew(t *testing.T) {
	for _, s := range []string{"", "abc"} {
		sealed := Seal(s)
		for at := range len(sealed)*8 - 11 {
			for p := uint32(1); p < 1<<12; p++ {
				b := within(sealed, at, p<<20)
				if got, e := Open(b); got != "" || e != api.ErrSum {
					t.Fatalf("%q, of which %012b is turned from the bit %d on, is opened: %q, %d", s, p, at, got, e)
				}
			}
		}
	}
}

// apart is by which bits the seal that is there and the sum that should be there
// part.
func apart(sealed string) uint32 {
	n := len(sealed) - 4
	there := uint32(0)
	for i := range 4 {
		there = there<<8 | uint32(sealed[n+i])
	}
	return there ^ Of(sealed[:n])
}

// P12.3: what bits do to the sum is put together of what each one does. So all
// bits within 32 in a row are found just if of these 32 none's doing is put
// together of the others': looked at by elimination, at every place.
func TestTurnedAll(t *testing.T) {
	for _, s := range []string{"", "a", "abcd", chance(7, 30)} {
		sealed := Seal(s)
		if apart(sealed) != 0 {
			t.Fatalf("the seal of %q is not its sum", s)
		}
		for at := range len(sealed)*8 - 31 {
			var byTop [32]uint32
			for k := range 32 {
				v := apart(turned(sealed, at+k))
				for v != 0 && byTop[bits.Len32(v)-1] != 0 {
					v ^= byTop[bits.Len32(v)-1]
				}
				if v == 0 {
					t.Fatalf("%q: some bits from %d on, of which %d is the last, may be turned", s, at, at+k)
				}
				byTop[bits.Len32(v)-1] = v
			}
		}
	}
	for i := range 200 {
		sealed := Seal(chance(9, 20))
		n := len(sealed) * 8
		a, b := int(mixed(i)%uint64(n)), int(mixed(i+1000)%uint64(n))
		if got, want := apart(turned(sealed, a, b)), apart(turned(sealed, a))^apart(turned(sealed, b)); got != want {
			t.Errorf("the bits %d and %d do %x together, not %x", a, b, got, want)
		}
	}
}
