// Package octet encodes and decodes fixed-size integers in either byte order, and does checked arithmetic on offsets: see shared/doc/01-octet.md.
package octet

import (
	"slices"

	"tintype/api"
)

const (
	maxNumber = 4 // the greatest size of a number
	maxGroup  = 8 // the greatest size of a group that Turn reverses: a DOUBLE has 8 bytes
)

// Get returns the unsigned number that is stored in b from index at on.
func Get(b []byte, at, size, order int) (int, bool) {
	if !isSize(size, maxNumber) || !isOrder(order) || !Room(at, size, len(b)) {
		return 0, false
	}
	n := 0
	for i, c := range b[at : at+size] {
		n |= int(c) << shift(i, size, order)
	}
	return n, true
}

// Put returns the bytes of the unsigned number n.
func Put(n, size, order int) ([]byte, bool) {
	if !isSize(size, maxNumber) || !isOrder(order) || n != low(n, size) {
		return nil, false
	}
	b := make([]byte, size)
	for i := range b {
		b[i] = byte(n >> shift(i, size, order))
	}
	return b, true
}

// Signed returns the signed number that the unsigned number n represents.
func Signed(n, size int) (int, bool) {
	if !isSize(size, maxNumber) || n != low(n, size) {
		return 0, false
	}
	return extended(n, size), true
}

// Plain returns the unsigned number that represents the signed number n.
func Plain(n, size int) (int, bool) {
	if !isSize(size, maxNumber) || n != extended(n, size) {
		return 0, false
	}
	return low(n, size), true
}

// Turn returns a copy of b, in order Little with each whole group of size bytes reversed.
func Turn(b []byte, size, order int) []byte {
	if !isSize(size, maxGroup) || !isOrder(order) {
		return nil
	}
	t := make([]byte, len(b))
	copy(t, b)
	if order == api.Big {
		return t
	}
	for at := 0; Room(at, size, len(t)); at += size {
		slices.Reverse(t[at : at+size])
	}
	return t
}

// Add returns the sum of two offsets, if it is an offset itself.
func Add(a, b int) (int, bool) {
	if !isOffset(a) || !isOffset(b) || !isOffset(a+b) {
		return 0, false
	}
	return a + b, true
}

// Room reports whether long bytes from at on end at end or before.
func Room(at, long, end int) bool {
	// at + long could wrap around; end - at can't, where at is from 0 to end.
	return at >= 0 && long >= 0 && at <= end && long <= end-at
}

// Even returns n, or n + 1 if n is odd.
func Even(n int) int {
	return n + n&1
}

// isSize reports whether size is valid where most is the greatest size.
func isSize(size, most int) bool {
	sizes := [...]int{1, 2, 4, 8}
	return slices.ContainsFunc(sizes[:], func(s int) bool {
		return s == size && s <= most
	})
}

func isOrder(order int) bool {
	return order == api.Little || order == api.Big
}

func isOffset(n int) bool {
	return 0 <= n && n <= api.Most
}

// shift returns the place, in bits, of the byte that is stored at index i of a number.
func shift(i, size, order int) int {
	if order == api.Little {
		return 8 * i
	}
	return 8 * (size - 1 - i)
}

// low returns what the lowest size bytes of n are as an unsigned number.
func low(n, size int) int {
	return n & (1<<(8*size) - 1)
}

// extended returns what the lowest size bytes of n are in two's complement.
func extended(n, size int) int {
	unused := 64 - 8*size
	return int(int64(n) << unused >> unused)
}
