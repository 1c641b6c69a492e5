package bits_test

import (
	"math"
	"math/rand"
	"testing"

	"winkle/bits"
)

// queue is a reader in slow motion: every bit stands by itself.
type queue []uint32

func (q *queue) put(b byte) bool {
	if len(*q) > 56 {
		return false
	}
	for i := range 8 {
		*q = append(*q, uint32(b)>>i&1)
	}
	return true
}

func (q *queue) peek(n int) (uint32, bool) {
	if n < 0 || n > 32 || n > len(*q) {
		return 0, false
	}
	var v uint32
	for i, bit := range (*q)[:n] {
		v += bit << i
	}
	return v, true
}

func (q *queue) take(n int) (uint32, bool) {
	v, ok := q.peek(n)
	if ok {
		*q = (*q)[n:]
	}
	return v, ok
}

func (q *queue) align() int {
	n := len(*q) % 8
	*q = (*q)[n:]
	return n
}

// same asks a reader for all that can be seen of it without a change.
func same(t *testing.T, what string, r *bits.Reader, q queue) {
	t.Helper()
	if r.Held() != len(q) {
		t.Fatalf("%s: Held = %d, want %d", what, r.Held(), len(q))
	}
	for n := -1; n <= 34; n++ {
		v, ok := r.Peek(n)
		want, may := q.peek(n)
		if v != want || ok != may {
			t.Fatalf("%s: with %d held, Peek(%d) = %#x, %v, want %#x, %v", what, len(q), n, v, ok, want, may)
		}
	}
	if r.Held() != len(q) {
		t.Fatalf("%s: Peek has changed Held to %d, from %d", what, r.Held(), len(q))
	}
}

// holding makes a reader and its queue that hold n bits, not more than 64, of bytes that differ.
func holding(t *testing.T, n int) (*bits.Reader, queue) {
	t.Helper()
	r, q := bits.New(), queue{}
	for i := range (n + 7) / 8 {
		b := byte(0x9d*(i+1) ^ 0x5a)
		if !r.Put(b) || !q.put(b) {
			t.Fatalf("byte %d refused", i)
		}
	}
	extra := (8 - n%8) % 8
	r.Take(extra)
	q.take(extra)
	same(t, "holding", r, q)
	return r, q
}

// Example 1.
func TestExampleTake(t *testing.T) {
	r := bits.New()
	if !r.Put(0xb4) {
		t.Error("Put refused")
	}
	for _, c := range []struct {
		n    int
		want uint32
		ok   bool
	}{{3, 4, true}, {5, 22, true}, {1, 0, false}} {
		if v, ok := r.Take(c.n); v != c.want || ok != c.ok {
			t.Errorf("Take(%d) = %d, %v, want %d, %v", c.n, v, ok, c.want, c.ok)
		}
	}
}

// Example 2.
func TestExampleAlign(t *testing.T) {
	r := bits.New()
	r.Put(0xff)
	r.Take(3)
	if n := r.Align(); n != 5 || r.Held() != 0 {
		t.Errorf("Align = %d, Held = %d, want 5, 0", n, r.Held())
	}
	r.Put(1)
	r.Put(2)
	if v, ok := r.Peek(16); v != 0x0201 || !ok {
		t.Errorf("Peek(16) = %#x, %v, want 0x201, true", v, ok)
	}
}

// P2.1: New holds none.
func TestNew(t *testing.T) {
	r := bits.New()
	if r == nil {
		t.Fatal("New answers nil")
	}
	same(t, "New", r, nil)
	if v, ok := r.Take(0); v != 0 || !ok {
		t.Errorf("Take(0) = %d, %v, want 0, true", v, ok)
	}
}

// P2.1: a byte is put in with 0 to 56 bits held, and refused with 57 to 64, which changes nothing.
func TestPut(t *testing.T) {
	for n := range 65 {
		for _, b := range []byte{0, 1, 0x80, 0xb4, 0xff} {
			r, q := holding(t, n)
			if ok := r.Put(b); ok != (n <= 56) {
				t.Errorf("with %d held, Put = %v", n, ok)
			}
			q.put(b)
			same(t, "Put", r, q)
			for range len(q) {
				want, _ := q.take(1)
				if v, ok := r.Take(1); v != want || !ok {
					t.Fatalf("with %d held, Put(%#x): a bit is %d, %v, want %d", n, b, v, ok, want)
				}
			}
		}
	}
}

// P2.2: every n at every number that is held, the edges and the greatest numbers too.
func TestTake(t *testing.T) {
	for held := range 65 {
		for n := -1; n <= 66; n++ {
			takeOnce(t, held, n)
		}
		for _, n := range []int{math.MinInt, -64, 1 << 31, 1 << 32, 1<<32 + 1, math.MaxInt} {
			takeOnce(t, held, n)
		}
	}
}

func takeOnce(t *testing.T, held, n int) {
	t.Helper()
	r, q := holding(t, held)
	want, may := q.peek(n)
	if v, ok := r.Peek(n); v != want || ok != may {
		t.Errorf("with %d held, Peek(%d) = %#x, %v, want %#x, %v", held, n, v, ok, want, may)
	}
	same(t, "Peek", r, q)
	q.take(n)
	if v, ok := r.Take(n); v != want || ok != may {
		t.Errorf("with %d held, Take(%d) = %#x, %v, want %#x, %v", held, n, v, ok, want, may)
	}
	same(t, "Take", r, q)
}

// P2.2: the numbers at the edges, written out.
func TestTakeEdges(t *testing.T) {
	fill := func() *bits.Reader {
		r := bits.New()
		for _, b := range []byte{0x01, 0x02, 0x03, 0x84, 0x05} {
			r.Put(b)
		}
		return r
	}
	for _, c := range []struct {
		n    int
		want uint32
		ok   bool
	}{
		{-1, 0, false},
		{0, 0, true},
		{1, 1, true},
		{31, 0x04030201, true},
		{32, 0x84030201, true},
		{33, 0, false},
	} {
		if v, ok := fill().Take(c.n); v != c.want || ok != c.ok {
			t.Errorf("Take(%d) = %#x, %v, want %#x, %v", c.n, v, ok, c.want, c.ok)
		}
	}
}

// P2.3: Align with nothing, whole bytes, and 1 to 7 bits more; what is behind stays, and a byte has room again.
func TestAlign(t *testing.T) {
	for n := range 65 {
		r, q := holding(t, n)
		want := n % 8
		if got := r.Align(); got != want {
			t.Errorf("with %d held, Align = %d, want %d", n, got, want)
		}
		q.align()
		same(t, "Align", r, q)
		if got := r.Align(); got != 0 {
			t.Errorf("with whole bytes, Align = %d", got)
		}
		same(t, "Align twice", r, q)
		if r.Put(0xa7) != q.put(0xa7) {
			t.Errorf("with %d held, Put behind Align", n)
		}
		same(t, "Put behind Align", r, q)
	}
}

// P2.3: Clear lets go of all, and what comes behind stands on nothing.
func TestClear(t *testing.T) {
	for n := range 65 {
		r, _ := holding(t, n)
		r.Clear()
		same(t, "Clear", r, nil)
		if !r.Put(0x12) {
			t.Errorf("with %d held, Put behind Clear is refused", n)
		}
		if v, ok := r.Take(8); v != 0x12 || !ok {
			t.Errorf("with %d held, behind Clear: %#x, %v, want 0x12", n, v, ok)
		}
	}
}

// reversed works out what P2.4 says bit by bit.
func reversed(v uint32, n int) uint32 {
	n = min(max(n, 0), 32)
	var out uint32
	for i := range n {
		out += (v >> i & 1) << (n - 1 - i)
	}
	return out
}

// P2.4, and example 3.
func TestReverse(t *testing.T) {
	for _, c := range []struct {
		v    uint32
		n    int
		want uint32
	}{
		{1, 3, 4},
		{6, 3, 3},
		{0xff, 4, 15},
		{5, -1, 0},
		{0xffffffff, -1, 0},
		{0xffffffff, math.MinInt, 0},
		{0xffffffff, 0, 0},
		{0xffffffff, 1, 1},
		{0xfffffffe, 1, 0},
		{1, 31, 1 << 30},
		{0x80000000, 31, 0},
		{0xc0000001, 31, 1<<30 | 1},
		{1, 32, 1 << 31},
		{0x80000000, 32, 1},
		{0x12345678, 32, 0x1e6a2c48},
		{0x12345678, 33, 0x1e6a2c48},
		{0x12345678, math.MaxInt, 0x1e6a2c48},
		{0x12345678, 1 << 32, 0x1e6a2c48},
	} {
		if got := bits.Reverse(c.v, c.n); got != c.want {
			t.Errorf("Reverse(%#x, %d) = %#x, want %#x", c.v, c.n, got, c.want)
		}
	}
}

// P2.4 and P2.5: every n, and Reverse of Reverse.
func TestReverseTwice(t *testing.T) {
	words := []uint32{0, 1, 2, 6, 0x80000000, 0x7fffffff, 0xffffffff, 0xb4b4b4b4, 0x12345678, 0xdeadbeef}
	for n := -2; n <= 35; n++ {
		low := uint32(uint64(1)<<min(max(n, 0), 32) - 1)
		for _, v := range words {
			once := bits.Reverse(v, n)
			if want := reversed(v, n); once != want {
				t.Errorf("Reverse(%#x, %d) = %#x, want %#x", v, n, once, want)
			}
			if twice := bits.Reverse(once, n); twice != v&low {
				t.Errorf("Reverse of Reverse(%#x, %d) = %#x, want %#x", v, n, twice, v&low)
			}
		}
	}
}

// P2.5: whatever the pieces are, the bits are those of the bytes, each once, in order.
func TestPieces(t *testing.T) {
	dice := rand.New(rand.NewSource(2))
	for range 300 {
		text := make([]byte, 40)
		dice.Read(text)
		r, put, at := bits.New(), 0, 0
		for at < 8*len(text) {
			if put < len(text) && dice.Intn(2) == 0 && r.Put(text[put]) {
				put++
			}
			n := dice.Intn(36) - 1
			v, ok := r.Take(n)
			if may := n >= 0 && n <= 32 && n <= 8*put-at; ok != may {
				t.Fatalf("Take(%d) = %v with %d held", n, ok, 8*put-at)
			}
			for i := 0; ok && i < n; i, at = i+1, at+1 {
				if bit := uint32(text[at/8]) >> (at % 8) & 1; v>>i&1 != bit {
					t.Fatalf("bit %d is %d, want %d", at, v>>i&1, bit)
				}
			}
		}
		if put != len(text) || r.Held() != 0 {
			t.Fatalf("%d bytes put in, %d bits left", put, r.Held())
		}
	}
}

// P2.1 to P2.3: any calls in any order, held against the queue; two readers side by side have nothing in common.
func TestAnyCalls(t *testing.T) {
	dice := rand.New(rand.NewSource(7))
	readers := []*bits.Reader{bits.New(), bits.New()}
	queues := make([]queue, 2)
	for range 20000 {
		i := dice.Intn(2)
		r, q := readers[i], &queues[i]
		switch dice.Intn(9) {
		case 0, 1, 2, 3, 4:
			b := byte(dice.Intn(256))
			if r.Put(b) != q.put(b) {
				t.Fatal("Put")
			}
		case 5, 6:
			n := dice.Intn(36) - 1
			v, ok := r.Take(n)
			if want, may := q.take(n); v != want || ok != may {
				t.Fatalf("Take(%d) = %#x, %v, want %#x, %v", n, v, ok, want, may)
			}
		case 7:
			if r.Align() != q.align() {
				t.Fatal("Align")
			}
		case 8:
			if dice.Intn(10) == 0 {
				r.Clear()
				*q = nil
			}
		}
		same(t, "reader 0", readers[0], queues[0])
		same(t, "reader 1", readers[1], queues[1])
	}
}

// Rule 1: a nil reader answers zero values and does nothing.
func TestNil(t *testing.T) {
	var r *bits.Reader
	for range 2 {
		if r.Put(1) {
			t.Error("Put of nil is true")
		}
		if r.Held() != 0 {
			t.Error("Held of nil")
		}
		for _, n := range []int{math.MinInt, -1, 0, 1, 8, 32, 33, math.MaxInt} {
			if v, ok := r.Peek(n); v != 0 || ok {
				t.Errorf("Peek(%d) of nil = %d, %v", n, v, ok)
			}
			if v, ok := r.Take(n); v != 0 || ok {
				t.Errorf("Take(%d) of nil = %d, %v", n, v, ok)
			}
		}
		if r.Align() != 0 {
			t.Error("Align of nil")
		}
		r.Clear()
	}
}
