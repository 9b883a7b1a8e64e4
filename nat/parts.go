package nat

import (
	"iter"
	"strings"

	"augur/api"
)

// A number is reckoned with as its PARTS, the lowest first, the last one not 0.
// A part has half the bits of a word: so a product of two parts, and two more parts beside it, fit into a word.
const (
	partBytes = 4
	partBits  = 8 * partBytes
	partMost  = 1<<partBits - 1
	wordBytes = 8
	wordParts = wordBytes / partBytes
)

// bare is the number without noughts ahead, still in the memory that was handed in.
func bare(a api.Nat) api.Nat {
	return api.Nat(strings.TrimLeft(string(a), "\x00"))
}

// fromEnd goes through a number's parts, the lowest first.
func fromEnd(a api.Nat) iter.Seq[uint32] {
	return func(yield func(uint32) bool) {
		for i := range countParts(a) {
			end := len(a) - i*partBytes
			if !yield(readPart(a[max(0, end-partBytes):end])) {
				return
			}
		}
	}
}

func countParts(a api.Nat) int {
	return (len(a) + partBytes - 1) / partBytes
}

func readPart(piece api.Nat) uint32 {
	var part uint32
	for i := range len(piece) {
		part = part<<8 | uint32(piece[i])
	}
	return part
}

// spread is the parts of a number, in fresh memory: they may be written into.
func spread(a api.Nat) []uint32 {
	a = bare(a)
	l := make([]uint32, 0, countParts(a))
	for part := range fromEnd(a) {
		l = append(l, part)
	}
	return l
}

// gather is the number of these parts, among which noughts may stand at the end.
func gather(l []uint32) api.Nat {
	l = shorten(l)
	out := make([]byte, len(l)*partBytes)
	for i, part := range l {
		end := len(out) - i*partBytes
		word := bytesOf(uint64(part))
		copy(out[end-partBytes:end], word[wordBytes-partBytes:])
	}
	return bare(api.Nat(out))
}

// shorten leaves out the noughts at the end: the highest parts.
func shorten(l []uint32) []uint32 {
	for len(l) > 0 && l[len(l)-1] == 0 {
		l = l[:len(l)-1]
	}
	return l
}

// bytesOf is a word's bytes, the highest first.
func bytesOf(word uint64) [wordBytes]byte {
	var b [wordBytes]byte
	for i := range wordBytes {
		b[wordBytes-1-i] = byte(word >> (8 * i))
	}
	return b
}

func ofWord(word uint64) api.Nat {
	b := bytesOf(word)
	return bare(api.Nat(b[:]))
}

// wordOf is the number of these parts, of which there are no more than a word holds.
func wordOf(l []uint32) uint64 {
	var word uint64
	for i, part := range l {
		word |= uint64(part) << (i * partBits)
	}
	return word
}
