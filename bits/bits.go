// Package bits: see ../../shared/doc/01-bits.md.
package bits

import (
	mathbits "math/bits"
	"slices"
	"sort"

	"gleanings/api"
)

// width is how many bits stand in one part.
const width = 64

// Make is bits of a list.
func Make(l []bool) api.Bits {
	parts := make([]uint64, partsFor(len(l)))
	for i, one := range l {
		if one {
			parts[i/width] |= uint64(1) << (i % width)
		}
	}
	return api.Bits{N: len(l), Parts: parts, Ahead: onesAhead(parts)}
}

// Good is whether bits are as Make makes them.
func Good(b api.Bits) bool {
	if b.N < 0 || len(b.Parts) != partsFor(b.N) {
		return false
	}
	behind := b.Parts[b.N/width] &^ lowest(b.N%width)
	return behind == 0 && slices.Equal(b.Ahead, onesAhead(b.Parts))
}

// At is the bit at a place; false, if there is none.
func At(b api.Bits, i int) bool {
	// Bits that Make has not made may have fewer parts than N tells.
	if i < 0 || i >= b.N || i/width >= len(b.Parts) {
		return false
	}
	return b.Parts[i/width]>>(i%width)&1 == 1
}

// Ones is how many ones there are ahead of a place.
func Ones(b api.Bits, i int) int {
	i = within(b, i)
	part := i / width
	// Bits that Make has not made may have fewer parts than N tells.
	if part >= len(b.Parts) || part >= len(b.Ahead) {
		return 0
	}
	return b.Ahead[part] + mathbits.OnesCount64(b.Parts[part]&lowest(i%width))
}

// Noughts is how many noughts there are ahead of a place.
func Noughts(b api.Bits, i int) int {
	return within(b, i) - Ones(b, i)
}

// Find is the place of the k-th one, from 0 on; -1: there are not so many.
func Find(b api.Bits, k int) int {
	if k < 0 {
		return -1
	}
	// Parts without ones repeat what is ahead, so only the last part that has
	// no more than k ahead of it can hold the k-th one.
	part := sort.Search(len(b.Ahead), func(p int) bool { return b.Ahead[p] > k }) - 1
	if part < 0 || part >= len(b.Parts) {
		return -1
	}
	rest := k - b.Ahead[part]
	if rest >= mathbits.OnesCount64(b.Parts[part]) {
		return -1
	}
	return part*width + findInPart(b.Parts[part], rest)
}

// partsFor is how many parts n bits have. There is always one more than is
// full, so that a count at place n itself has a part to look at.
func partsFor(n int) int {
	return n/width + 1
}

// onesAhead is, part by part, how many ones there are in all parts ahead of it.
func onesAhead(parts []uint64) []int {
	ahead := make([]int, len(parts))
	ones := 0
	for p, part := range parts {
		ahead[p] = ones
		ones += mathbits.OnesCount64(part)
	}
	return ahead
}

// lowest is a mask of the n lowest bits of a part; n is from 0 to width.
func lowest(n int) uint64 {
	return uint64(1)<<n - 1
}

// within is a place moved to the nearest one from 0 to N. The 0 is taken last,
// because N may be below 0 in bits that Make has not made.
func within(b api.Bits, i int) int {
	return max(min(i, b.N), 0)
}

// findInPart is the place of the k-th one of a part that has more than k ones.
func findInPart(part uint64, k int) int {
	place := 0
	for half := width / 2; half > 0; half /= 2 {
		ones := mathbits.OnesCount64(part & lowest(half))
		if k >= ones {
			k -= ones
			part >>= half
			place += half
		}
	}
	return place
}
