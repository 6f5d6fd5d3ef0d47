// Package lane is layer 1, words of 64 bits: see shared/doc/01-lane.md.
// A word's bits are numbered from 0 on, the lowest one first.
package lane

import (
	"iter"
	"math/bits"
)

// size is how many bits a word has.
const size = 64

// Ones tells how many bits of w are one.
func Ones(w uint64) int { return bits.OnesCount64(w) }

// Rank tells how many ones there are among the bits of w below i; an i below 0
// counts as 0, one above 64 as 64.
func Rank(w uint64, i int) int { return Ones(w & Mask(i)) }

// Select tells the number of the one of w that has just k ones below it, or -1
// if there is none.
func Select(w uint64, k int) int {
	if k < 0 || k >= Ones(w) {
		return -1
	}
	at := 0
	// The one that is looked for stays among the lowest 2*half bits of w, so
	// that six steps find it, however many ones lie below it.
	for half := size / 2; half > 0; half /= 2 {
		below := Rank(w, half)
		if k >= below {
			k -= below
			w >>= half
			at += half
		}
	}
	return at
}

// Mask is the word whose bits below n are ones, and no others; an n below 0
// counts as 0, one above 64 as 64.
func Mask(n int) uint64 {
	n = min(max(n, 0), size)
	// With n at 64 the shift leaves 0, and 0 less 1 is all ones.
	return uint64(1)<<n - 1
}

// Cut is the n bits of w from the bit at on, laid from the bit 0 on; bits that
// w does not have are noughts.
func Cut(w uint64, at, n int) uint64 {
	// So far off there are noughts alone; and the least int may not be negated.
	if at <= -size || at >= size {
		return 0
	}
	if at < 0 {
		return (w << -at) & Mask(n)
	}
	return (w >> at) & Mask(n)
}

// Width is the least n from 0 on with v below 2^n.
func Width(v uint64) int { return bits.Len64(v) }

// Pairs goes over the ones of w, the lowest first: how many ones are below it,
// and its number.
func Pairs(w uint64) iter.Seq2[int, int] {
	return func(yield func(int, int) bool) {
		k := 0
		// A copy is used up, not w, so that each going over begins anew.
		for rest := w; rest != 0; rest &= rest - 1 {
			if !yield(k, bits.TrailingZeros64(rest)) {
				return
			}
			k++
		}
	}
}
