package tally_test

import (
	"math/big"
	"testing"

	"winkle/tally"
)

const greatest uint64 = 1<<64 - 1

// edges are numbers around which sums and products begin to lie above 2^64 - 1.
func edges() []uint64 {
	return []uint64{
		0, 1, 2, 3, 5, 255, 256, 257,
		1<<31 - 1, 1 << 31, 1<<32 - 1, 1 << 32, 1<<32 + 1,
		1<<63 - 1, 1 << 63, 1<<63 + 1,
		greatest / 5, greatest/5 + 1, greatest/3 + 1,
		greatest - 1, greatest,
	}
}

// capped works out what P1.1 says by whole numbers that have no greatest one.
func capped(x *big.Int) uint64 {
	if x.IsUint64() {
		return x.Uint64()
	}
	return greatest
}

func whole(x uint64) *big.Int { return new(big.Int).SetUint64(x) }

func sum(a, b uint64) uint64     { return capped(new(big.Int).Add(whole(a), whole(b))) }
func product(a, b uint64) uint64 { return capped(new(big.Int).Mul(whole(a), whole(b))) }

// P1.1, and example 1.
func TestAdd(t *testing.T) {
	for _, c := range []struct{ a, b, want uint64 }{
		{0, 0, 0},
		{2, 3, 5},
		{greatest, 0, greatest},
		{0, greatest, greatest},
		{greatest - 1, 1, greatest},
		{greatest, 1, greatest},
		{1, greatest, greatest},
		{greatest, greatest, greatest},
		{greatest - 2, 1, greatest - 1},
		{1 << 63, 1<<63 - 1, greatest},
		{1 << 63, 1 << 63, greatest},
		{1<<63 + 7, 1<<63 + 7, greatest},
		{1<<32 - 1, 1, 1 << 32},
	} {
		if got := tally.Add(c.a, c.b); got != c.want {
			t.Errorf("Add(%d, %d) = %d, want %d", c.a, c.b, got, c.want)
		}
	}
}

// P1.1, and example 1.
func TestTimes(t *testing.T) {
	for _, c := range []struct{ a, b, want uint64 }{
		{0, 0, 0},
		{3, 5, 15},
		{0, greatest, 0},
		{greatest, 0, 0},
		{1, greatest, greatest},
		{greatest, 1, greatest},
		{1 << 32, 1 << 32, greatest},
		{1<<32 - 1, 1<<32 + 1, greatest}, // just 2^64 - 1
		{1 << 32, 1<<32 - 1, greatest - (1<<32 - 1)},
		{greatest / 5, 5, greatest}, // just 2^64 - 1
		{greatest/5 + 1, 5, greatest},
		{greatest / 2, 2, greatest - 1},
		{1 << 63, 2, greatest}, // just 2^64
		{greatest, 2, greatest},
		{1 << 33, 1 << 33, greatest},
		{greatest, greatest, greatest},
	} {
		if got := tally.Times(c.a, c.b); got != c.want {
			t.Errorf("Times(%d, %d) = %d, want %d", c.a, c.b, got, c.want)
		}
	}
}

// P1.1 at every pair of edges, held against whole numbers.
func TestSumsAndProductsOfEdges(t *testing.T) {
	for _, a := range edges() {
		for _, b := range edges() {
			if got, want := tally.Add(a, b), sum(a, b); got != want {
				t.Errorf("Add(%d, %d) = %d, want %d", a, b, got, want)
			}
			if got, want := tally.Times(a, b), product(a, b); got != want {
				t.Errorf("Times(%d, %d) = %d, want %d", a, b, got, want)
			}
		}
	}
}

// P1.2, and example 2.
func TestAllowed(t *testing.T) {
	for _, c := range []struct{ total, ratio, slack, n, want uint64 }{
		{100, 3, 10, 20, 70},
		{50, 3, 10, 20, 50},
		{70, 3, 10, 20, 70},
		{69, 3, 10, 20, 69},
		{71, 3, 10, 20, 70},
		{0, 3, 10, 20, 0},
		{100, 0, 0, 20, 0},
		{100, 0, 10, 20, 10},
		{100, 3, 10, 0, 10},
		{100, 3, 0, 20, 60},
		{greatest, greatest, 0, 1, greatest},
		{greatest, 1, 1, greatest, greatest},
		{greatest, 1, 1, greatest - 1, greatest},
		{greatest, 1, 1, greatest - 2, greatest - 1},
		{greatest, 1 << 32, 0, 1 << 32, greatest},
		{greatest, 1 << 32, 5, 1 << 32, greatest},
		{7, 1 << 32, 5, 1 << 32, 7},
		{7, 0, greatest, 0, 7},
		{7, 1, greatest, 1, 7},
	} {
		if got := tally.Allowed(c.total, c.ratio, c.slack, c.n); got != c.want {
			t.Errorf("Allowed(%d, %d, %d, %d) = %d, want %d", c.total, c.ratio, c.slack, c.n, got, c.want)
		}
	}
}

// P1.2 at every four edges, held against whole numbers: what is capped in two steps is what is capped in one.
func TestAllowedOfEdges(t *testing.T) {
	for _, ratio := range edges() {
		for _, n := range edges() {
			for _, slack := range edges() {
				free := sum(product(ratio, n), slack)
				for _, total := range edges() {
					want := min(total, free)
					if got := tally.Allowed(total, ratio, slack, n); got != want {
						t.Fatalf("Allowed(%d, %d, %d, %d) = %d, want %d", total, ratio, slack, n, got, want)
					}
				}
			}
		}
	}
}

// holds fails the test if a ledger's numbers are others.
func holds(t *testing.T, l *tally.Ledger, used, left uint64) {
	t.Helper()
	if l.Used() != used || l.Left() != left {
		t.Errorf("Used, Left = %d, %d, want %d, %d", l.Used(), l.Left(), used, left)
	}
}

// P1.3, and example 3.
func TestLedgerExample(t *testing.T) {
	l := tally.New(5)
	holds(t, l, 0, 5)
	for i, c := range []struct {
		call       func(uint64) bool
		n          uint64
		want       bool
		used, left uint64
	}{
		{l.Claim, 3, true, 3, 2},
		{l.Claim, 3, false, 3, 2},
		{l.Give, 4, false, 3, 2},
		{l.Give, 1, true, 2, 3},
	} {
		if got := c.call(c.n); got != c.want {
			t.Errorf("call %d with %d = %v, want %v", i, c.n, got, c.want)
		}
		holds(t, l, c.used, c.left)
	}
}

// P1.3: just what is left, and one more; a claim of so much that the sum would wrap.
func TestClaimEdges(t *testing.T) {
	for _, limit := range edges() {
		for _, used := range edges() {
			if used > limit {
				continue
			}
			l := tally.New(limit)
			if !l.Claim(used) {
				t.Fatalf("limit %d: Claim(%d) = false", limit, used)
			}
			holds(t, l, used, limit-used)
			if limit-used < greatest && l.Claim(limit-used+1) {
				t.Errorf("limit %d, used %d: one more than is left was claimed", limit, used)
			}
			if limit-used < greatest && l.Claim(greatest) {
				t.Errorf("limit %d, used %d: the greatest number was claimed", limit, used)
			}
			holds(t, l, used, limit-used)
			if !l.Claim(0) {
				t.Errorf("limit %d, used %d: Claim(0) = false", limit, used)
			}
			holds(t, l, used, limit-used)
			if !l.Claim(limit - used) {
				t.Errorf("limit %d, used %d: just what is left was refused", limit, used)
			}
			holds(t, l, limit, 0)
			if l.Claim(1) {
				t.Errorf("limit %d: Claim(1) = true with nothing left", limit)
			}
			holds(t, l, limit, 0)
		}
	}
}

// P1.3: just what is used, and one more; gifts do not raise what is left above the limit.
func TestGiveEdges(t *testing.T) {
	for _, used := range edges() {
		limit := tally.Add(used, 10)
		l := tally.New(limit)
		l.Claim(used)
		if used < greatest && (l.Give(used+1) || l.Give(greatest)) {
			t.Errorf("used %d: more than is used was given back", used)
		}
		holds(t, l, used, limit-used)
		if !l.Give(0) {
			t.Errorf("used %d: Give(0) = false", used)
		}
		holds(t, l, used, limit-used)
		if !l.Give(used) {
			t.Errorf("used %d: just what is used was refused", used)
		}
		holds(t, l, 0, limit)
		if l.Give(1) {
			t.Errorf("Give(1) = true with nothing used")
		}
		holds(t, l, 0, limit)
		if !l.Claim(limit) {
			t.Errorf("limit %d: what was given back can't be claimed again", limit)
		}
		holds(t, l, limit, 0)
	}
}

// P1.3: a ledger of nothing.
func TestLedgerOfLimitZero(t *testing.T) {
	l := tally.New(0)
	holds(t, l, 0, 0)
	if l.Claim(1) || l.Claim(greatest) || l.Give(1) || l.Give(greatest) {
		t.Error("a limit of 0 let something be claimed or given")
	}
	if !l.Claim(0) || !l.Give(0) {
		t.Error("a limit of 0 refused 0")
	}
	holds(t, l, 0, 0)
}

// Rule 1: a nil ledger answers zero values, and none of its methods panics.
func TestNilLedger(t *testing.T) {
	var l *tally.Ledger
	for _, n := range edges() {
		if l.Claim(n) || l.Give(n) {
			t.Errorf("a nil ledger took %d", n)
		}
		holds(t, l, 0, 0)
	}
}

// Rule 4: two ledgers have nothing in common.
func TestLedgersAreApart(t *testing.T) {
	a, b := tally.New(5), tally.New(5)
	a.Claim(4)
	holds(t, a, 4, 1)
	holds(t, b, 0, 5)
	b.Claim(5)
	a.Give(4)
	holds(t, a, 0, 5)
	holds(t, b, 5, 0)
}

// P1.4: order and grouping.
func TestOrderAndGrouping(t *testing.T) {
	for name, f := range map[string]func(a, b uint64) uint64{"Add": tally.Add, "Times": tally.Times} {
		for _, a := range edges() {
			for _, b := range edges() {
				if f(a, b) != f(b, a) {
					t.Errorf("%s(%d, %d) hangs on the order", name, a, b)
				}
				for _, c := range edges() {
					if f(f(a, b), c) != f(a, f(b, c)) {
						t.Errorf("%s of %d, %d, %d hangs on the grouping", name, a, b, c)
					}
				}
			}
		}
	}
}

// P1.4: with a greater argument neither is less.
func TestGreaterArguments(t *testing.T) {
	for name, f := range map[string]func(a, b uint64) uint64{"Add": tally.Add, "Times": tally.Times} {
		for _, a := range edges() {
			for _, b := range edges() {
				for _, c := range edges() {
					if b <= c && (f(a, b) > f(a, c) || f(b, a) > f(c, a)) {
						t.Errorf("%s with %d: %d gives more than %d", name, a, b, c)
					}
				}
			}
		}
	}
}

// P1.4: what is used never is above the limit, whatever is claimed and given; every answer is held against a plain model.
func TestUsedNeverAboveLimit(t *testing.T) {
	steps := append(edges(), 7, 11, 100)
	for _, limit := range edges() {
		l, used := tally.New(limit), uint64(0)
		for i := range 4 * len(steps) * len(steps) {
			n := steps[(i*5+i/len(steps))%len(steps)]
			if i%3 == 2 {
				want := n <= used
				if got := l.Give(n); got != want {
					t.Fatalf("limit %d, used %d: Give(%d) = %v, want %v", limit, used, n, got, want)
				}
				if want {
					used -= n
				}
			} else {
				want := n <= limit-used
				if got := l.Claim(n); got != want {
					t.Fatalf("limit %d, used %d: Claim(%d) = %v, want %v", limit, used, n, got, want)
				}
				if want {
					used += n
				}
			}
			if l.Used() > limit || l.Used() != used || l.Left() != limit-used {
				t.Fatalf("limit %d: Used, Left = %d, %d, want %d, %d", limit, l.Used(), l.Left(), used, limit-used)
			}
		}
	}
}
