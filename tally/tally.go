// Package tally is layer 1: see shared/doc/01-tally.md.
package tally

import (
	"math"
	"math/bits"
)

// Add tells the sum, or the greatest number.
func Add(a, b uint64) uint64 {
	sum, above := bits.Add64(a, b, 0)
	return greatestIf(above, sum)
}

// Times tells the product, or the greatest number.
func Times(a, b uint64) uint64 {
	above, product := bits.Mul64(a, b)
	return greatestIf(above, product)
}

// greatestIf tells low, or the greatest number if something lies above low's 64 bits.
func greatestIf(above, low uint64) uint64 {
	if above != 0 {
		return math.MaxUint64
	}
	return low
}

// Allowed tells the lesser one of total, and ratio times n and slack.
func Allowed(total, ratio, slack, n uint64) uint64 {
	return min(total, Add(Times(ratio, n), slack))
}

// counts are a ledger's numbers: used is never above limit, so that limit less used does not wrap.
type counts struct {
	limit uint64
	used  uint64
}

// Ledger is what was claimed of a limit.
type Ledger struct {
	counts
}

// New makes a ledger of which nothing is used.
func New(limit uint64) *Ledger {
	return &Ledger{counts{limit: limit}}
}

// Claim uses n more, if they are left.
func (l *Ledger) Claim(n uint64) bool {
	// A nil ledger has 0 left, but even a claim of 0 is refused there.
	if l == nil || n > l.Left() {
		return false
	}
	l.used += n
	return true
}

// Give gives n back, if they are used.
func (l *Ledger) Give(n uint64) bool {
	if l == nil || n > l.used {
		return false
	}
	l.used -= n
	return true
}

// Used tells how many are used.
func (l *Ledger) Used() uint64 {
	if l == nil {
		return 0
	}
	return l.used
}

// Left tells how many are left.
func (l *Ledger) Left() uint64 {
	if l == nil {
		return 0
	}
	return l.limit - l.used
}
