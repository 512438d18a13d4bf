// Package word is layer 1: see shared/doc/01-word.md.
package word

import (
	"baton/api"
)

const (
	wordBits  = 32
	wordBytes = 4
	maxSize   = 8 // bytes of a uint64
)

// Rot returns x rotated right by n bits.
func Rot(x uint32, n int) uint32 {
	// 32 divides the range of uint, so a negative n keeps its remainder; a shift by all 32 bits gives 0.
	k := uint(n) % wordBits
	return x>>k | x<<(wordBits-k)
}

// Bytes returns the bytes of the words, the most significant byte of each first.
func Bytes(l ...uint32) []byte {
	b := make([]byte, 0, len(l)*wordBytes)
	for _, w := range l {
		b = append(b, byte(w>>24), byte(w>>16), byte(w>>8), byte(w))
	}
	return b
}

// Words returns the words whose Bytes is b. ErrShort: the length of b is no multiple of four.
func Words(b []byte) ([]uint32, api.Errno) {
	if len(b)%wordBytes != 0 {
		return nil, api.ErrShort
	}
	l := make([]uint32, 0, len(b)/wordBytes)
	for i := 0; i < len(b); i += wordBytes {
		l = append(l, uint32(number(b[i:i+wordBytes])))
	}
	return l, api.OK
}

// Put returns n as size bytes, the most significant first. ErrArg: size is not from 1 to 8; ErrSize: n needs more bytes.
func Put(n uint64, size int) ([]byte, api.Errno) {
	if !goodSize(size) {
		return nil, api.ErrArg
	}
	// At size 8 the shift is by all 64 bits and gives 0: every n fits.
	if n>>(8*size) != 0 {
		return nil, api.ErrSize
	}
	b := make([]byte, size)
	for i := range b {
		b[i] = byte(n >> (8 * (size - 1 - i)))
	}
	return b, api.OK
}

// Get returns the number whose Put is b. ErrArg: b has not from 1 to 8 bytes.
func Get(b []byte) (uint64, api.Errno) {
	if !goodSize(len(b)) {
		return 0, api.ErrArg
	}
	return number(b), api.OK
}

// Xor returns the bytewise exclusive or. ErrSize: the lengths differ.
func Xor(a, b []byte) ([]byte, api.Errno) {
	if len(a) != len(b) {
		return nil, api.ErrSize
	}
	x := make([]byte, len(a))
	for i := range x {
		x[i] = a[i] ^ b[i]
	}
	return x, api.OK
}

func goodSize(size int) bool {
	return 1 <= size && size <= maxSize
}

func number(b []byte) uint64 {
	var n uint64
	for _, c := range b {
		n = n<<8 | uint64(c)
	}
	return n
}
