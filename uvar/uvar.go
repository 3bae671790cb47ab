// Package uvar is layer 1: see shared/doc/01-uvar.md.
package uvar

import (
	"annulet/api"
)

const (
	groupBits = 7
	more      = 1 << groupBits // what is added to every byte but the last
	maxSize   = 10             // groups that 64 bits need
	maxLast   = 1              // the tenth group has but one of the 64 bits left
)

// Put appends, so that whoever writes many numbers grows one slice (1.1).
func Put(b []byte, n uint64) []byte {
	for range Size(n) - 1 {
		b = append(b, byte(n)|more)
		n >>= groupBits
	}
	return append(b, byte(n))
}

// Size tells the length ahead of writing; 0 needs a byte too (1.1).
func Size(n uint64) int {
	for i := range maxSize - 1 {
		n >>= groupBits
		if n == 0 {
			return i + 1
		}
	}
	return maxSize
}

// Get accepts only what Put writes, so that no number has two encodings (1.2).
func Get(b []byte) (uint64, int, api.Errno) {
	var n uint64
	for i := range min(len(b), maxSize) {
		n |= uint64(b[i]&(more-1)) << (groupBits * i)
		if b[i] >= more {
			continue
		}
		if !canEnd(b[i], i) {
			return 0, 0, api.ErrForm
		}
		return n, i + 1, api.OK
	}
	if len(b) < maxSize {
		return 0, 0, api.ErrShort
	}
	return 0, 0, api.ErrForm
}

// canEnd refuses a last byte that Put would have left out, or that holds bits beyond the 64th.
func canEnd(last byte, index int) bool {
	switch index {
	case 0:
		return true
	case maxSize - 1:
		return last == maxLast
	}
	return last != 0
}

// Zig keeps numbers near 0 short, whatever their sign; -2n - 1 is the complement of 2n, which cannot overflow (1.3).
func Zig(n int64) uint64 {
	double := uint64(n) << 1
	if n < 0 {
		return ^double
	}
	return double
}

// Zag halves first, so that every step stays within 64 bits (1.3).
func Zag(u uint64) int64 {
	half := int64(u >> 1)
	if u&1 == 1 {
		return ^half
	}
	return half
}

// PutAll needs no marks between the numbers: each encoding tells its own end (1.4).
func PutAll(l []uint64) []byte {
	var b []byte
	for _, n := range l {
		b = Put(b, n)
	}
	return b
}

// GetAll tells with an error also where it stopped, so that the fault can be found (1.4).
func GetAll(b []byte) ([]uint64, int, api.Errno) {
	var l []uint64
	at := 0
	for at < len(b) {
		n, size, err := Get(b[at:])
		if err != api.OK {
			return nil, at, err
		}
		l = append(l, n)
		at += size
	}
	return l, at, api.OK
}
