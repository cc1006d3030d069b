// Package varint writes numbers as bytes, and reads them. It is layer 1: see shared/doc/01-varint.md.
package varint

import (
	"iter"
	"math/bits"

	"quantum/api"
)

// MaxSize is the greatest size.
const MaxSize = 10

// Errors.
const (
	ErrShort api.Errno = 10 // bytes that end inside a number
	ErrOver  api.Errno = 11 // a number above 2^64 - 1
	ErrZero  api.Errno = 12 // a last byte that is 0
)

const (
	groupBits = 7
	more      = 1 << groupBits // added to each byte of a form but the last one
)

// Size returns how many bytes a number has.
func Size(x uint64) int {
	// 0 needs a group as well, as many as 1 does.
	return (bits.Len64(x|1) + groupBits - 1) / groupBits
}

// Write returns the bytes of a number.
func Write(x uint64) []byte {
	return put(make([]byte, 0, Size(x)), x)
}

// Read returns the number with which some bytes begin, and how many bytes it has.
func Read(b []byte) (uint64, int, api.Errno) {
	if len(b) == 0 {
		return 0, 0, ErrShort
	}
	var first uint64
	size := 0
	err := scan(b, func(x uint64, n int) bool {
		first, size = x, n
		return false
	})
	return first, size, err
}

// WriteAll returns the bytes of some numbers.
func WriteAll(l []uint64) []byte {
	size := 0
	for _, x := range l {
		size += Size(x)
	}
	b := make([]byte, 0, size)
	for _, x := range l {
		b = put(b, x)
	}
	return b
}

// ReadAll returns the numbers that some bytes are.
func ReadAll(b []byte) ([]uint64, api.Errno) {
	var l []uint64
	err := scan(b, func(x uint64, _ int) bool {
		l = append(l, x)
		return true
	})
	if err != api.OK {
		return nil, err
	}
	return l, api.OK
}

// Zigzag returns the zigzag number of an integer.
func Zigzag(n int64) uint64 {
	// The shift of n leaves the sign in all bits: those of 2 n are turned over if n is less than 0.
	return uint64(n)<<1 ^ uint64(n>>63)
}

// Unzigzag returns the integer with a zigzag number.
func Unzigzag(x uint64) int64 {
	return int64(x>>1) ^ -int64(x&1)
}

// groups yields the bytes of the form of a number.
func groups(x uint64) iter.Seq[byte] {
	return func(yield func(byte) bool) {
		rest := x // a copy, so that the groups can be gone through again
		for ; rest >= more; rest >>= groupBits {
			if !yield(byte(rest) | more) {
				return
			}
		}
		yield(byte(rest))
	}
}

// put appends the form of a number.
func put(b []byte, x uint64) []byte {
	for c := range groups(x) {
		b = append(b, c)
	}
	return b
}

// scan reads forms one after the other and gives each number with its size to look, until look answers false or no bytes are left.
func scan(b []byte, look func(x uint64, size int) bool) api.Errno {
	at := 0
numbers:
	for at < len(b) {
		var x uint64
		for i, c := range b[at:] {
			if i == MaxSize-1 && c > 1 {
				return ErrOver
			}
			x |= uint64(c&^more) << (groupBits * i)
			if c >= more {
				continue
			}
			if c == 0 && i > 0 {
				return ErrZero
			}
			if !look(x, i+1) {
				break numbers
			}
			at += i + 1
			continue numbers
		}
		return ErrShort
	}
	return api.OK
}
