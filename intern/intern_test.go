package intern

import (
	"fmt"
	"iter"
	"slices"
	"strings"
	"testing"
)

// mixed is a number from 0 to below bound that looks as if by chance; of each i
// it is the same each time.
func mixed(i, bound int) int {
	x := (uint64(i) + 1) * 0x9e3779b97f4a7c15
	x ^= x >> 31
	x *= 0xbf58476d1ce4e5b9
	x ^= x >> 29
	return int(x % uint64(bound))
}

// put fails, if Put of s tells something else.
func put(t *testing.T, x *Table, s string, number int, fresh bool) {
	t.Helper()
	if n, f := x.Put(s); n != number || f != fresh {
		t.Fatalf("Put of %q: %d, %v, not %d, %v", s, n, f, number, fresh)
	}
}

// find fails, if Find of s tells something else.
func find(t *testing.T, x *Table, s string, number int) {
	t.Helper()
	if n := x.Find(s); n != number {
		t.Fatalf("Find of %q: %d, not %d", s, n, number)
	}
}

// none fails, if there is a text with the number i.
func none(t *testing.T, x *Table, i int) {
	t.Helper()
	if s, ok := x.Text(i); ok || s != "" {
		t.Fatalf("Text of %d: %q, %v, though there is none", i, s, ok)
	}
}

// sizes fails, if there are other numbers of texts and slots.
func sizes(t *testing.T, x *Table, texts, slots int) {
	t.Helper()
	if x.Len() != texts || x.Slots() != slots {
		t.Fatalf("%d texts and %d slots, not %d and %d", x.Len(), x.Slots(), texts, slots)
	}
}

// told is the texts that a going over tells; their numbers must be in a row.
func told(t *testing.T, all iter.Seq2[int, string]) []string {
	t.Helper()
	if all == nil {
		t.Fatal("a going over is nil")
	}
	var l []string
	for i, s := range all {
		if i != len(l) {
			t.Errorf("the text %d has the number %d", len(l), i)
		}
		l = append(l, s)
	}
	return l
}

// holds fails, if the table has other texts than these, in whatever way it is
// asked.
func holds(t *testing.T, x *Table, want []string) {
	t.Helper()
	sizes(t, x, len(want), slotsBehind(len(want)))
	for i, s := range want {
		find(t, x, s, i)
		if got, ok := x.Text(i); !ok || got != s {
			t.Fatalf("Text of %d: %q, %v, not %q", i, got, ok, s)
		}
	}
	for _, i := range []int{-1 << 63, -2, -1, len(want), len(want) + 1, 2*len(want) + 8, x.Slots(), 1<<63 - 1} {
		none(t, x, i)
	}
	if got := told(t, x.All()); !slices.Equal(got, want) {
		t.Fatalf("All: %q, not %q", got, want)
	}
}

// slotsBehind is how many slots a table of n texts has, found one text by one.
func slotsBehind(n int) int {
	slots := 8
	for texts := 1; texts <= n; texts++ {
		if 2*texts > slots {
			slots *= 2
		}
	}
	return slots
}

// of is a table of these texts, each of which is new.
func of(t *testing.T, l ...string) *Table {
	t.Helper()
	x := New()
	for i, s := range l {
		put(t, x, s, i, true)
	}
	return x
}

// P14.1: the chapter's example.
func TestExample(t *testing.T) {
	x := New()
	put(t, x, "a", 0, true)
	put(t, x, "b", 1, true)
	put(t, x, "a", 0, false)
	for i, s := range []string{"c", "d", "e"} {
		put(t, x, s, i+2, true)
	}
	sizes(t, x, 5, 16)
}

// P14.1: a table without texts.
func TestEmpty(t *testing.T) {
	x := New()
	holds(t, x, nil)
	sizes(t, x, 0, 8)
	find(t, x, "", -1)
	find(t, x, "a", -1)
	if y := New(); x == y {
		t.Error("two tables are one")
	}
}

// P14.1: how many slots there are behind each number of texts.
func TestSlots(t *testing.T) {
	want := map[int]int{0: 8, 1: 8, 4: 8, 5: 16, 8: 16, 9: 32, 16: 32, 17: 64, 32: 64, 33: 128,
		64: 128, 65: 256, 128: 256, 129: 512, 256: 512, 257: 1024, 512: 1024, 513: 2048,
		1024: 2048, 1025: 4096, 2048: 4096, 2049: 8192}
	x := New()
	for n := range 2100 {
		sizes(t, x, n, slotsBehind(n))
		if slots, ok := want[n]; ok {
			sizes(t, x, n, slots)
		}
		// Neither what is there already nor what is asked for makes slots.
		for _, s := range []string{"0", fmt.Sprint(n - 1)} {
			if n > 0 {
				x.Put(s)
			}
			x.Find(s + "?")
		}
		sizes(t, x, n, slotsBehind(n))
		put(t, x, fmt.Sprint(n), n, true)
	}
}

// P14.1: with the slots half full, a text that is there already makes no more.
func TestHalfFull(t *testing.T) {
	x := of(t, "a", "b", "c", "d")
	for i, s := range []string{"a", "b", "c", "d"} {
		put(t, x, s, i, false)
		sizes(t, x, 4, 8)
	}
	find(t, x, "e", -1)
	sizes(t, x, 4, 8)
	put(t, x, "e", 4, true)
	sizes(t, x, 5, 16)
	holds(t, x, []string{"a", "b", "c", "d", "e"})
}

// P14.1: a text that comes twice, at once and much later.
func TestTwice(t *testing.T) {
	x := New()
	var l []string
	for i := range 500 {
		s := fmt.Sprintf("w%d", i)
		put(t, x, s, i, true)
		put(t, x, s, i, false)
		l = append(l, s)
	}
	for i, s := range l {
		put(t, x, s, i, false)
	}
	holds(t, x, l)
}

// P14.1: numbers below 0, and just at and above Len, and texts that are not there.
func TestNotThere(t *testing.T) {
	x := of(t, "ab", "", "c")
	for _, i := range []int{-1 << 63, -9, -3, -1, 3, 4, 7, 8, 9, 1<<63 - 1} {
		none(t, x, i)
	}
	for _, s := range []string{"a", "b", "abc", "ba", "ab\x00", "AB", "d", " ", "\x00", strings.Repeat("ab", 5000)} {
		find(t, x, s, -1)
		find(t, x, s, -1)
	}
	holds(t, x, []string{"ab", "", "c"})
}

// P14.2: a going over may be gone over again, and ended at each round.
func TestAgain(t *testing.T) {
	want := []string{"a", "", "b", "c", "d", "e", "f"}
	x := of(t, want...)
	all := x.All()
	for range 2 {
		for end := 1; end <= len(want); end++ {
			var l []string
			for i, s := range all {
				if i != len(l) {
					t.Fatalf("the text %d has the number %d", len(l), i)
				}
				l = append(l, s)
				if len(l) == end {
					break
				}
			}
			if !slices.Equal(l, want[:end]) {
				t.Errorf("ended behind %d: %q", end, l)
			}
		}
		if got := told(t, all); !slices.Equal(got, want) {
			t.Errorf("All: %q", got)
		}
	}
}

// P14.2: two goings over within one another do not know of each other.
func TestWithin(t *testing.T) {
	want := []string{"a", "b", "c", "d", "e"}
	x := of(t, want...)
	all := x.All()
	var l []string
	for i, s := range all {
		for k, u := range all {
			if k > i {
				break
			}
			l = append(l, s+u)
		}
	}
	if got := strings.Join(l, " "); got != "aa ba bb ca cb cc da db dc dd ea eb ec ed ee" {
		t.Errorf("within one another: %s", got)
	}
}

// P14.2: the texts are told as they are when the going begins: what is put on
// the way is not told, but by the next going.
func TestPutOnTheWay(t *testing.T) {
	for first := range 40 {
		x := New()
		var want []string
		for i := range first {
			want = append(want, fmt.Sprint(i))
			put(t, x, want[i], i, true)
		}
		all := x.All()
		var l, later []string
		for i, s := range all {
			l = append(l, s)
			for k := range 3 {
				u := fmt.Sprintf("%d.%d", i, k)
				put(t, x, u, first+len(later), true)
				later = append(later, u)
			}
		}
		if !slices.Equal(l, want) {
			t.Fatalf("of %d texts: %q", first, l)
		}
		want = append(want, later...)
		if got := told(t, all); !slices.Equal(got, want) {
			t.Fatalf("again, of %d texts: %q", first, got)
		}
		holds(t, x, want)
	}
}

// P14.2: a going begins when it is ranged over, not when it is asked for.
func TestPutAhead(t *testing.T) {
	x := New()
	all := x.All()
	if got := told(t, all); len(got) != 0 {
		t.Errorf("of no texts: %q", got)
	}
	put(t, x, "a", 0, true)
	put(t, x, "b", 1, true)
	if got := told(t, all); !slices.Equal(got, []string{"a", "b"}) {
		t.Errorf("of two texts: %q", got)
	}
}

// P14.2: a nil table in every call.
func TestNil(t *testing.T) {
	var x *Table
	for _, s := range []string{"", "a"} {
		put(t, x, s, -1, false)
		find(t, x, s, -1)
	}
	for i := -2; i < 3; i++ {
		none(t, x, i)
	}
	sizes(t, x, 0, 0)
	all := x.All()
	for range 2 {
		if got := told(t, all); len(got) != 0 {
			t.Errorf("All of nil: %q", got)
		}
	}
}

// P14.3: the empty text as the first one and as a later one.
func TestEmptyText(t *testing.T) {
	for at := range 20 {
		x := New()
		var want []string
		for i := range 40 {
			s := fmt.Sprint(i)
			if i == at {
				find(t, x, "", -1)
				s = ""
			}
			put(t, x, s, i, true)
			want = append(want, s)
		}
		put(t, x, "", at, false)
		holds(t, x, want)
	}
}

// P14.3: texts that differ in their last byte alone, in their first one alone, or
// in their length alone, and such as are no UTF-8.
func TestAlike(t *testing.T) {
	seen := map[string]bool{}
	var l []string
	for _, base := range []string{"", "a", "ab", strings.Repeat("\x00", 7), strings.Repeat("long ", 60)} {
		for c := range 256 {
			for _, s := range []string{base + string([]byte{byte(c)}), string([]byte{byte(c)}) + base} {
				if !seen[s] {
					seen[s] = true
					l = append(l, s)
				}
			}
		}
	}
	for n := range 300 {
		for _, c := range []string{"\x00", "x", "\xff"} {
			if s := strings.Repeat(c, n); !seen[s] {
				seen[s] = true
				l = append(l, s)
			}
		}
	}
	x := of(t, l...)
	holds(t, x, l)
	find(t, x, strings.Repeat("x", 300), -1)
	find(t, x, strings.Repeat("long ", 60)+"xx", -1)
}

// P14.3: all numbers stay as they were through each doubling.
func TestStay(t *testing.T) {
	x := New()
	var l []string
	for i := range 1100 {
		slots := x.Slots()
		s := string([]byte{byte(i), byte(i >> 8), 'x'})
		find(t, x, s, -1)
		put(t, x, s, i, true)
		l = append(l, s)
		if x.Slots() != slots || i < 40 {
			holds(t, x, l)
		}
	}
	holds(t, x, l)
}

// P14.3: many texts that would stand in the same slots, at the table's end too.
func TestSameSlot(t *testing.T) {
	for _, slot := range []uint64{0, 1, 500, 1022, 1023} {
		var l, other []string
		for i := 0; len(other) < 100; i++ {
			s := fmt.Sprint("t", i)
			switch {
			case hash(s)%1024 != slot:
			case len(l) < 300:
				l = append(l, s)
			default:
				other = append(other, s)
			}
		}
		x := of(t, l...)
		for _, s := range other {
			find(t, x, s, -1)
		}
		holds(t, x, l)
		for i, s := range l {
			put(t, x, s, i, false)
		}
	}
}

// P14.3: keys stand apart by what they are, though all hashes be the same; the
// slots are of keys of any kind.
func TestSameHash(t *testing.T) {
	for _, h := range []uint64{0, 7, 15, 1<<64 - 1} {
		var l slots[[2]int]
		for i := range 200 {
			key := [2]int{i / 10, i % 10}
			if n := l.find(key, h); n != -1 {
				t.Fatalf("%v has the number %d ahead of its coming", key, n)
			}
			if n := l.add(key, h); n != i {
				t.Fatalf("%v gets the number %d, not %d", key, n, i)
			}
			for k := range i + 1 {
				if n := l.find([2]int{k / 10, k % 10}, h); n != k {
					t.Fatalf("the key %d has the number %d", k, n)
				}
			}
		}
	}
}

// P14.3: against a plain map and list, texts coming as if by chance.
func TestPlain(t *testing.T) {
	for seed := range 60 {
		x := New()
		numbers := map[string]int{}
		var l []string
		for i := range 400 {
			at := seed*1_000_003 + 7*i
			b := make([]byte, mixed(at, 4))
			for k := range b {
				b[k] = "ab\x00\xff \n"[mixed(at+k+1, 1+seed%6)]
			}
			s := string(b)
			if mixed(at+5, 3) == 0 {
				want, ok := numbers[s]
				if !ok {
					want = -1
				}
				find(t, x, s, want)
				continue
			}
			n, ok := numbers[s]
			if !ok {
				n = len(l)
				numbers[s] = n
				l = append(l, s)
			}
			put(t, x, s, n, !ok)
		}
		holds(t, x, l)
	}
}

// P14.3: two tables do not know of each other.
func TestTwo(t *testing.T) {
	x, y := New(), New()
	for i := range 100 {
		put(t, x, fmt.Sprint(i), i, true)
		put(t, y, fmt.Sprint(99-i), i, true)
	}
	for i := range 100 {
		find(t, x, fmt.Sprint(i), i)
		find(t, y, fmt.Sprint(i), 99-i)
	}
}

// P14.1: as many unlike texts as a vocabulary may have words, and more.
func TestMany(t *testing.T) {
	x := New()
	const n = 70000
	for i := range n {
		put(t, x, fmt.Sprintf("word %d", i), i, true)
	}
	sizes(t, x, n, 262144)
	for i := range n {
		find(t, x, fmt.Sprintf("word %d", i), i)
	}
	find(t, x, fmt.Sprintf("word %d", n), -1)
	none(t, x, n)
}
