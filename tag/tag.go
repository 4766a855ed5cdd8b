// Package tag is layer 1: the arithmetic of start tags, which stops at Top, and the order of items. See shared/doc/01-tag.md.
package tag

import (
	"weighbridge/api"
)

// A factor is cut in two halves, so that the product of two halves fits a word.
const (
	half = 32
	low  = 1<<half - 1
)

// Add returns a + b, or Top if that is greater than Top.
func Add(a, b uint64) uint64 {
	sum := a + b
	// The sum has wrapped round exactly if it is below one of its parts.
	if sum < a {
		return api.Top
	}
	return sum
}

// Mul returns a * b, or Top if that is greater than Top.
func Mul(a, b uint64) uint64 {
	aHigh, aLow := a>>half, a&low
	bHigh, bLow := b>>half, b&low
	if aHigh != 0 && bHigh != 0 {
		return api.Top
	}
	// One of the two products is 0, as one of the high halves is, so the sum does not wrap.
	cross := aHigh*bLow + aLow*bHigh
	if cross>>half != 0 {
		return api.Top
	}
	return Add(cross<<half, aLow*bLow)
}

// Inverse returns what one unit of length costs a flow of this weight: at least 1, so that no packet with a length is free.
func Inverse(unit uint64, weight int) (uint64, bool) {
	if unit < 1 || unit > api.MaxUnit || weight < 1 || weight > api.MaxWeight {
		return 0, false
	}
	return max(unit/uint64(weight), 1), true
}

// Cost returns what a packet of this size costs where a unit of length costs r; a negative size counts as 0.
func Cost(size int, r uint64) uint64 {
	return Mul(uint64(max(size, 0)), r)
}

// Ahead reports whether a precedes b: by Key, and for equal Keys by ID.
func Ahead(a, b api.Item) bool {
	if a.Key != b.Key {
		return a.Key < b.Key
	}
	return a.ID < b.ID
}
