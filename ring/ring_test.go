package ring_test

import (
	"bytes"
	"math"
	"math/rand"
	"testing"

	"winkle/api"
	"winkle/ring"
)

// window is a ring in slow motion: a list whose first byte is cut off when there are too many.
type window struct {
	size int
	list []byte
}

func (s *window) put(b byte) {
	s.list = append(s.list, b)
	if len(s.list) > s.size {
		s.list = s.list[1:]
	}
}

func (s *window) back(d int) (byte, bool) {
	if d < 1 || d > len(s.list) {
		return 0, false
	}
	return s.list[len(s.list)-d], true
}

func (s *window) repeat(d, n int) ([]byte, bool) {
	if _, ok := s.back(d); !ok || n < 0 || n > 65536 {
		return nil, false
	}
	var told []byte
	for range n {
		b, _ := s.back(d)
		s.put(b)
		told = append(told, b)
	}
	return told, true
}

// same asks a window for all that can be seen of it without a change.
func same(t *testing.T, what string, w *ring.Ring, s window) {
	t.Helper()
	if w.Size() != s.size || w.Len() != len(s.list) {
		t.Fatalf("%s: Size = %d, Len = %d, want %d, %d", what, w.Size(), w.Len(), s.size, len(s.list))
	}
	if tail := w.Tail(); !bytes.Equal(tail, s.list) {
		t.Fatalf("%s: of size %d, Tail = %v, want %v", what, s.size, tail, s.list)
	}
	n := len(s.list)
	for _, d := range []int{math.MinInt, -n, -1, 0, 1, 2, n/2 + 1, n - 1, n, n + 1, s.size, s.size + 1, math.MaxInt} {
		b, ok := w.Back(d)
		if want, may := s.back(d); b != want || ok != may {
			t.Fatalf("%s: with %d of %d, Back(%d) = %d, %v, want %d, %v", what, n, s.size, d, b, ok, want, may)
		}
	}
}

func opened(t *testing.T, size int) *ring.Ring {
	t.Helper()
	w, e := ring.New(size)
	if w == nil || e != api.OK {
		t.Fatalf("New(%d) = %v, %d", size, w, e)
	}
	return w
}

// filled makes a window and its slow one, with n bytes put in that differ from their neighbours.
func filled(t *testing.T, size, n int) (*ring.Ring, window) {
	t.Helper()
	w, s := opened(t, size), window{size: size}
	for i := range n {
		b := byte(i*7 + i/256 + 1)
		w.Put(b)
		s.put(b)
	}
	return w, s
}

// fillings are how many bytes make a window empty, part filled, just full, one beyond, and filled several times over.
func fillings(size int) []int {
	return []int{0, 1, size / 2, size - 1, size, size + 1, 2*size - 1, 2 * size, 3*size + 1}
}

// Example 1.
func TestExamplePut(t *testing.T) {
	w := opened(t, 3)
	for _, b := range []byte{1, 2, 3, 4} {
		w.Put(b)
	}
	if tail := w.Tail(); !bytes.Equal(tail, []byte{2, 3, 4}) {
		t.Errorf("Tail = %v", tail)
	}
	for _, c := range []struct {
		d    int
		want byte
		ok   bool
	}{{1, 4, true}, {3, 2, true}, {4, 0, false}} {
		if b, ok := w.Back(c.d); b != c.want || ok != c.ok {
			t.Errorf("Back(%d) = %d, %v, want %d, %v", c.d, b, ok, c.want, c.ok)
		}
	}
}

// Example 2.
func TestExampleRepeat(t *testing.T) {
	w := opened(t, 3)
	for _, b := range []byte{1, 2, 3, 4} {
		w.Put(b)
	}
	if list, ok := w.Repeat(2, 5); !bytes.Equal(list, []byte{3, 4, 3, 4, 3}) || !ok {
		t.Errorf("Repeat(2, 5) = %v, %v", list, ok)
	}
	if tail := w.Tail(); !bytes.Equal(tail, []byte{3, 4, 3}) {
		t.Errorf("Tail = %v", tail)
	}
	if list, ok := w.Repeat(4, 1); len(list) != 0 || ok {
		t.Errorf("Repeat(4, 1) = %v, %v", list, ok)
	}
	if list, ok := w.Repeat(1, 0); len(list) != 0 || !ok {
		t.Errorf("Repeat(1, 0) = %v, %v", list, ok)
	}
}

// P3.1 and rule 2, and example 3: which sizes may be, and that nothing stands beside an error.
func TestNew(t *testing.T) {
	for _, size := range []int{math.MinInt, -32768, -1, 0, 32769, 65536, 1 << 31, 1 << 32, 1<<32 + 1, math.MaxInt} {
		if w, e := ring.New(size); w != nil || e != api.ErrArg {
			t.Errorf("New(%d) = %v, %d, want nil, %d", size, w, e, api.ErrArg)
		}
	}
	for _, size := range []int{1, 2, 3, 255, 32767, 32768} {
		same(t, "New", opened(t, size), window{size: size})
	}
}

// P3.1 and P3.4: of more bytes than there is room for the first ones go; looked at behind every byte.
func TestPut(t *testing.T) {
	for _, size := range []int{1, 2, 3, 8, 9} {
		w, s := opened(t, size), window{size: size}
		for i := range 4*size + 3 {
			w.Put(byte(i + 1))
			s.put(byte(i + 1))
			same(t, "Put", w, s)
		}
	}
}

// P3.1 and P3.4: the greatest window, at each filling.
func TestPutGreatest(t *testing.T) {
	for _, size := range []int{32767, 32768} {
		for _, n := range fillings(size) {
			w, s := filled(t, size, n)
			same(t, "Put", w, s)
		}
	}
}

// P3.2: every d, at every filling of a small window.
func TestBack(t *testing.T) {
	for _, size := range []int{1, 2, 5, 300} {
		for _, n := range fillings(size) {
			w, s := filled(t, size, n)
			for d := -2; d <= size+2; d++ {
				b, ok := w.Back(d)
				if want, may := s.back(d); b != want || ok != may {
					t.Fatalf("with %d put into %d, Back(%d) = %d, %v, want %d, %v", n, size, d, b, ok, want, may)
				}
			}
			same(t, "Back", w, s)
		}
	}
}

// repeatOnce holds one Repeat, and what it leaves, against the slow window.
func repeatOnce(t *testing.T, size, put, d, n int) {
	t.Helper()
	w, s := filled(t, size, put)
	want, may := s.repeat(d, n)
	list, ok := w.Repeat(d, n)
	if !bytes.Equal(list, want) || ok != may {
		t.Fatalf("with %d put into %d, Repeat(%d, %d) = %v, %v, want %v, %v", put, size, d, n, list, ok, want, may)
	}
	same(t, "Repeat", w, s)
	w.Put(0xee)
	s.put(0xee)
	same(t, "Put behind Repeat", w, s)
}

// P3.3: every d and n at small windows, those that are refused too, which leave all as it was.
func TestRepeat(t *testing.T) {
	for _, size := range []int{1, 2, 3, 4, 7} {
		for put := range 3*size + 2 {
			for d := -1; d <= size+2; d++ {
				for n := -1; n <= 3*size+2; n++ {
					repeatOnce(t, size, put, d, n)
				}
			}
		}
	}
}

// P3.3: the edges of n and d at windows up to the greatest.
func TestRepeatEdges(t *testing.T) {
	for _, size := range []int{1, 2, 300, 32768} {
		for _, put := range []int{0, 1, size/2 + 1, size, size + 1, 2*size + 5} {
			held := min(size, put)
			for _, d := range []int{math.MinInt, -1, 0, 1, held, held + 1, math.MaxInt} {
				for _, n := range []int{math.MinInt, -1, 0, 1, d - 1, d, d + 1, size, size + 1, 65535, 65536, 65537, math.MaxInt} {
					repeatOnce(t, size, put, d, n)
				}
			}
		}
	}
}

// P3.3: the most that may be repeated, and one more, written out.
func TestRepeatMost(t *testing.T) {
	w := opened(t, 3)
	w.Put(1)
	w.Put(2)
	list, ok := w.Repeat(2, 65536)
	if !ok || !bytes.Equal(list, bytes.Repeat([]byte{1, 2}, 32768)) {
		t.Errorf("Repeat(2, 65536) = %d bytes, %v", len(list), ok)
	}
	if tail := w.Tail(); !bytes.Equal(tail, []byte{2, 1, 2}) {
		t.Errorf("Tail = %v", tail)
	}
	if list, ok := w.Repeat(2, 65537); len(list) != 0 || ok {
		t.Errorf("Repeat(2, 65537) = %d bytes, %v", len(list), ok)
	}
	if tail := w.Tail(); !bytes.Equal(tail, []byte{2, 1, 2}) {
		t.Errorf("a refused Repeat leaves %v", tail)
	}
}

// P3.4: what Repeat tells is the d bytes at the end, again and again, and goes in behind them.
func TestRounds(t *testing.T) {
	dice := rand.New(rand.NewSource(3))
	for range 500 {
		size := 1 + dice.Intn(40)
		w, s := filled(t, size, 1+dice.Intn(100))
		d, n := 1+dice.Intn(len(s.list)), dice.Intn(200)
		ahead := w.Tail()
		round := ahead[len(ahead)-d:]
		want := bytes.Repeat(round, n/d+1)[:n]
		if list, ok := w.Repeat(d, n); !bytes.Equal(list, want) || !ok {
			t.Fatalf("Repeat(%d, %d) = %v, %v, want %v", d, n, list, ok, want)
		}
		all := append(bytes.Clone(ahead), want...)
		if tail := w.Tail(); !bytes.Equal(tail, all[len(all)-min(size, len(all)):]) {
			t.Fatalf("behind Repeat(%d, %d) of size %d, Tail = %v", d, n, size, tail)
		}
	}
}

// P3.1: behind Clear nothing is in a window, whatever was, and it is filled anew.
func TestClear(t *testing.T) {
	for _, size := range []int{1, 2, 5, 32768} {
		for _, n := range fillings(size) {
			w, _ := filled(t, size, n)
			w.Clear()
			s := window{size: size}
			same(t, "Clear", w, s)
			if list, ok := w.Repeat(1, 1); len(list) != 0 || ok {
				t.Errorf("Repeat behind Clear = %v, %v", list, ok)
			}
			for i := range min(size+2, 12) {
				w.Put(byte(200 + i))
				s.put(byte(200 + i))
				same(t, "Put behind Clear", w, s)
			}
		}
	}
}

// spoil writes to all of a list, its spare room too.
func spoil(list []byte) {
	list = list[:cap(list)]
	for i := range list {
		list[i] = 0xff
	}
	_ = append(list, 0xff, 0xff)
}

// Rule 3: what was answered may be written to and appended to, and the window stays as it was.
func TestAnswersAreNew(t *testing.T) {
	for _, size := range []int{1, 2, 6, 300} {
		for _, n := range fillings(size) {
			for _, times := range []int{0, 1, size, 2*size + 1} {
				w, s := filled(t, size, n)
				spoil(w.Tail())
				same(t, "a Tail that was written to", w, s)
				list, _ := w.Repeat(1, times)
				s.repeat(1, times)
				spoil(list)
				same(t, "a Repeat that was written to", w, s)
			}
		}
	}
}

// Rule 3: later calls do not change what was answered.
func TestAnswersStay(t *testing.T) {
	for _, size := range []int{1, 2, 6, 300} {
		for _, n := range fillings(size)[1:] {
			w, _ := filled(t, size, max(1, n))
			tail := w.Tail()
			list, _ := w.Repeat(1, size)
			tailWas, listWas := bytes.Clone(tail), bytes.Clone(list)
			for range 2 * size {
				w.Put(0xaa)
			}
			w.Repeat(1, 2*size)
			w.Clear()
			w.Put(0xbb)
			spoil(w.Tail())
			if !bytes.Equal(tail, tailWas) || !bytes.Equal(list, listWas) {
				t.Fatalf("of size %d with %d put in, answers became %v, %v, were %v, %v", size, n, tail, list, tailWas, listWas)
			}
		}
	}
}

// P3.1 to P3.3 and rule 4: any calls in any order; two windows side by side have nothing in common.
func TestAnyCalls(t *testing.T) {
	dice := rand.New(rand.NewSource(9))
	for _, sizes := range [][2]int{{1, 2}, {3, 3}, {8, 13}, {64, 1}} {
		windows := []*ring.Ring{opened(t, sizes[0]), opened(t, sizes[1])}
		slow := []window{{size: sizes[0]}, {size: sizes[1]}}
		for range 5000 {
			i := dice.Intn(2)
			w, s := windows[i], &slow[i]
			switch k := dice.Intn(20); {
			case k < 13:
				b := byte(dice.Intn(256))
				w.Put(b)
				s.put(b)
			case k < 19:
				d, n := dice.Intn(s.size+3)-1, dice.Intn(3*s.size+2)-1
				list, ok := w.Repeat(d, n)
				if want, may := s.repeat(d, n); !bytes.Equal(list, want) || ok != may {
					t.Fatalf("Repeat(%d, %d) = %v, %v, want %v, %v", d, n, list, ok, want, may)
				}
			case dice.Intn(5) == 0:
				w.Clear()
				s.list = nil
			}
			same(t, "window 0", windows[0], slow[0])
			same(t, "window 1", windows[1], slow[1])
		}
	}
}

// Rule 1: a nil window answers zero values and does nothing.
func TestNil(t *testing.T) {
	var w *ring.Ring
	for range 2 {
		w.Put(1)
		for _, d := range []int{math.MinInt, -1, 0, 1, 32768, math.MaxInt} {
			if b, ok := w.Back(d); b != 0 || ok {
				t.Errorf("Back(%d) of nil = %d, %v", d, b, ok)
			}
			for _, n := range []int{math.MinInt, -1, 0, 1, 65536, 65537, math.MaxInt} {
				if list, ok := w.Repeat(d, n); len(list) != 0 || ok {
					t.Errorf("Repeat(%d, %d) of nil = %v, %v", d, n, list, ok)
				}
			}
		}
		if list := w.Tail(); len(list) != 0 || w.Len() != 0 || w.Size() != 0 {
			t.Errorf("nil has Tail %v, Len %d, Size %d", list, w.Len(), w.Size())
		}
		w.Clear()
	}
}
