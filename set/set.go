// Package set: sets of bytes: see doc/01-set.md.
package set

import (
	"math/bits"

	"chaffcutter/api"
)

const (
	wordBits = 64
	lastByte = 255
)

// Range: the bytes from low to high. Bounds beyond the bytes are no fault: only the bytes between them count.
func Range(low, high int) api.Set {
	var s api.Set
	for b := max(low, 0); b <= min(high, lastByte); b++ {
		s[b/wordBits] |= uint64(1) << uint(b%wordBits)
	}
	return s
}

// Has: whether b is in s.
func Has(s api.Set, b byte) bool {
	return s[b/wordBits]>>(b%wordBits)&1 == 1
}

// Count: how many bytes s has.
func Count(s api.Set) int {
	n := 0
	for _, word := range s {
		n += bits.OnesCount64(word)
	}
	return n
}

// First: the least byte of s that is at least from, or -1.
func First(s api.Set, from int) int {
	for b := max(from, 0); b <= lastByte; b++ {
		if Has(s, byte(b)) {
			return b
		}
	}
	return -1
}

// Bytes: all that s has, rising.
func Bytes(s api.Set) string {
	var list []byte
	for b := First(s, 0); b >= 0; b = First(s, b+1) {
		list = append(list, byte(b))
	}
	return string(list)
}

// Join: the bytes of both together.
func Join(s, t api.Set) api.Set {
	return wordByWord(s, t, func(a, b uint64) uint64 { return a | b })
}

// Meet: the bytes that both have.
func Meet(s, t api.Set) api.Set {
	return wordByWord(s, t, func(a, b uint64) uint64 { return a & b })
}

// Not: the bytes that s has not.
func Not(s api.Set) api.Set {
	return wordByWord(Range(0, lastByte), s, func(a, b uint64) uint64 { return a &^ b })
}

func wordByWord(s, t api.Set, of func(a, b uint64) uint64) api.Set {
	var made api.Set
	for i := range made {
		made[i] = of(s[i], t[i])
	}
	return made
}
