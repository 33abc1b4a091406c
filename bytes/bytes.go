// Package bytes is layer 1: numbers, words of a flash and strings, written down as bytes and read back (see shared/doc/01-bytes.md).
package bytes

import (
	"blockhouse/api"
)

const (
	digitBits  = 7
	more       = 1 << digitBits // a digit that another one follows is written down so much greater
	mostDigits = 10             // of a number of 64 bits
	lastOfMost = 1              // nine digits are 63 bits: the tenth one has a single bit left
	wordBytes  = 4
	filler     = 255 // what erased flash reads as, so that filling up a word clears no bit
)

// Uint tells out with n written down behind it.
func Uint(out []byte, n uint64) []byte {
	told := grown(out, digits(n))
	putUint(told[len(out):], n)
	return told
}

// GetUint tells the number at the place, and the place behind it.
func GetUint(b []byte, at int) (uint64, int, api.Errno) {
	if !isPlace(b, at) {
		return 0, 0, api.ErrArg
	}
	left := len(b) - at
	n := uint64(0)
	for i := range min(left, mostDigits) {
		c := b[at+i]
		n |= uint64(c%more) << (digitBits * i)
		if c >= more {
			continue
		}
		if !mayEnd(c, i) {
			return 0, 0, api.ErrBytes
		}
		return n, at + i + 1, api.OK
	}
	if left < mostDigits {
		return 0, 0, api.ErrShort
	}
	return 0, 0, api.ErrBytes
}

// Word tells out with n written down behind it.
func Word(out []byte, n uint32) []byte {
	told := grown(out, wordBytes)
	for i := range wordBytes {
		told[len(out)+i] = byteOf(n, i)
	}
	return told
}

// GetWord tells the word at the place, and the place behind it.
func GetWord(b []byte, at int) (uint32, int, api.Errno) {
	if !isPlace(b, at) {
		return 0, 0, api.ErrArg
	}
	if len(b)-at < wordBytes {
		return 0, 0, api.ErrShort
	}
	return wordAt(b, at), at + wordBytes, api.OK
}

// Blob tells out with b, as a string, written down behind it.
func Blob(out, b []byte) []byte {
	size := uint64(len(b))
	behind := len(out) + digits(size)
	told := grown(out, digits(size)+len(b))
	putUint(told[len(out):behind], size)
	copy(told[behind:], b)
	return told
}

// GetBlob tells the string of at most most bytes at the place, and the place behind it.
func GetBlob(b []byte, at, most int) ([]byte, int, api.Errno) {
	size, from, err := GetUint(b, at)
	if err != api.OK {
		return nil, 0, err
	}
	// Held against each other as uint64: a size may be greater than any int.
	if most < 0 || size > uint64(most) {
		return nil, 0, api.ErrLong
	}
	if size > uint64(len(b)-from) {
		return nil, 0, api.ErrShort
	}
	to := from + int(size)
	return grown(b[from:to], 0), to, api.OK
}

// Words tells b as words of a flash, the last one filled up.
func Words(b []byte) []uint32 {
	l := make([]uint32, (len(b)+wordBytes-1)/wordBytes)
	for i := range len(l) {
		l[i] = wordAt(b, wordBytes*i)
	}
	return l
}

// Bytes tells the first n bytes of l's words written down.
func Bytes(l []uint32, n int) ([]byte, api.Errno) {
	if n < 0 {
		return nil, api.ErrArg
	}
	if n > wordBytes*len(l) {
		return nil, api.ErrShort
	}
	told := make([]byte, n)
	for i := range n {
		told[i] = byteOf(l[i/wordBytes], i%wordBytes)
	}
	return told, api.OK
}

// isPlace also allows the place behind the last byte: something may still come there.
func isPlace(b []byte, at int) bool {
	return 0 <= at && at <= len(b)
}

// grown is a copy of b with room for many bytes more: appending to b itself could write into its spare room.
func grown(b []byte, many int) []byte {
	told := make([]byte, len(b)+many)
	copy(told, b)
	return told
}

// digits is how many digits n has; nought has one.
func digits(n uint64) int {
	for many := range mostDigits {
		if n>>(digitBits*many) == 0 {
			return max(many, 1)
		}
	}
	return mostDigits
}

// putUint fills room, which has a byte for each of n's digits.
func putUint(room []byte, n uint64) {
	last := len(room) - 1
	for i := range last {
		room[i] = byte(n>>(digitBits*i)) | more
	}
	room[last] = byte(n >> (digitBits * last))
}

// mayEnd tells whether c may be the last digit behind i others: a nought there would make two ways of writing one number, and more than one bit in the tenth place would not fit.
func mayEnd(c byte, i int) bool {
	if i == mostDigits-1 {
		return c == lastOfMost
	}
	return c != 0 || i == 0
}

// byteOf is the byte i of n written down, the greatest one first.
func byteOf(n uint32, i int) byte {
	return byte(n >> (8 * (wordBytes - 1 - i)))
}

// wordAt is the word of the four bytes from the place on, with filler for those past the end.
func wordAt(b []byte, at int) uint32 {
	n := uint32(0)
	for i := range wordBytes {
		c := byte(filler)
		if at+i < len(b) {
			c = b[at+i]
		}
		n = n<<8 | uint32(c)
	}
	return n
}
