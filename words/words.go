// Package words has words as bytes, either way round, and turns their bits: layer 1, see shared/doc/01-words.md.
package words

import (
	"math/bits"

	"pestle/api"
)

// word is a number without a sign, of 32 or of 64 bits.
type word interface{ uint32 | uint64 }

// order tells which of a word's n bytes, counted from the lowest one, stands at place i.
type order func(i, n int) int

func lowestFirst(i, n int) int { return i }

func highestFirst(i, n int) int { return n - 1 - i }

// laid is the bytes of words, n of each.
func laid[W word](l []W, n int, o order) []byte {
	b := make([]byte, 0, len(l)*n)
	for _, x := range l {
		for i := range n {
			b = append(b, byte(x>>(8*o(i, n))))
		}
	}
	return b
}

// taken is the words that laid makes the bytes of.
func taken[W word](b []byte, n int, o order) ([]W, api.Errno) {
	if len(b)%n != 0 {
		return nil, api.ErrSize
	}
	l := make([]W, len(b)/n)
	for i, x := range b {
		l[i/n] |= W(x) << (8 * o(i%n, n))
	}
	return l, api.OK
}

// Little32 is the bytes of words, the lowest one of each first.
func Little32(l ...uint32) []byte { return laid(l, 4, lowestFirst) }

// Big32 is the bytes of words, the highest one of each first.
func Big32(l ...uint32) []byte { return laid(l, 4, highestFirst) }

// Little64 is the bytes of words of 64 bits, the lowest one of each first.
func Little64(l ...uint64) []byte { return laid(l, 8, lowestFirst) }

// Big64 is the bytes of words of 64 bits, the highest one of each first.
func Big64(l ...uint64) []byte { return laid(l, 8, highestFirst) }

// Take32 is the words whose Little32 the bytes are; ErrSize: they are no whole words.
func Take32(b []byte) ([]uint32, api.Errno) { return taken[uint32](b, 4, lowestFirst) }

// TakeBig32 is the words whose Big32 the bytes are; ErrSize: they are no whole words.
func TakeBig32(b []byte) ([]uint32, api.Errno) { return taken[uint32](b, 4, highestFirst) }

// Take64 is the words whose Little64 the bytes are; ErrSize: they are no whole words.
func Take64(b []byte) ([]uint64, api.Errno) { return taken[uint64](b, 8, lowestFirst) }

// Left32 is a word whose bits are turned to the left by n places.
// Any n will do as it is: bits looks at its lowest bits alone, which multiples of 32 leave as they are, below 0 too.
func Left32(x uint32, n int) uint32 { return bits.RotateLeft32(x, n) }

// Right32 is a word whose bits are turned to the right by n places.
// The lowest int is its own -n; that does no harm, as it is a multiple of 32.
func Right32(x uint32, n int) uint32 { return bits.RotateLeft32(x, -n) }

// Right64 is a word of 64 bits whose bits are turned to the right by n places.
func Right64(x uint64, n int) uint64 { return bits.RotateLeft64(x, -n) }

// Xor is texts of one length put together by exclusive or, of none the empty one; ErrSize: they have unlike lengths.
func Xor(l ...string) (string, api.Errno) {
	if len(l) == 0 {
		return "", api.OK
	}
	b := []byte(l[0])
	for _, s := range l[1:] {
		if len(s) != len(b) {
			return "", api.ErrSize
		}
		for i := range b {
			b[i] ^= s[i]
		}
	}
	return string(b), api.OK
}
