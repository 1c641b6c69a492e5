package inflate_test

import (
	"bytes"
	"fmt"
	"math"
	"slices"
	"testing"

	"winkle/api"
	"winkle/inflate"
)

// answer is what some bytes give.
type answer struct {
	out  []byte
	at   []int // by which byte that was put in each one of out is known
	used int
	why  api.Reason // None: the end has come
}

// slow reads bytes by the chapter's words, bit by bit.
type slow struct {
	b      []byte
	bits   int // how many were read
	answer answer
}

// halt is what a slow one gives up by.
type halt struct{ why api.Reason }

// slowly tells what bytes give.
func slowly(b []byte) (told answer) {
	s := &slow{b: b}
	defer func() {
		h, ok := recover().(halt)
		if !ok {
			panic("the slow one fell")
		}
		told = s.answer
		told.why, told.used = h.why, s.puts()
		if h.why == api.Cut {
			told.used = len(b)
		}
	}()
	for {
		last := s.number(1)
		s.block(s.number(2))
		if last == 1 {
			panic(halt{api.None})
		}
	}
}

// puts tells how many bytes there are up to the one with the last bit that was read.
func (s *slow) puts() int { return (s.bits + 7) / 8 }

func (s *slow) stopIf(wrong bool, why api.Reason) {
	if wrong {
		panic(halt{why})
	}
}

func (s *slow) number(n int) int {
	v := 0
	for i := range n {
		s.stopIf(s.bits == 8*len(s.b), api.Cut)
		v += int(s.b[s.bits/8]>>(s.bits%8)&1) << i
		s.bits++
	}
	return v
}

func (s *slow) give(b byte) {
	s.answer.out = append(s.answer.out, b)
	s.answer.at = append(s.answer.at, s.puts())
}

func (s *slow) block(kind int) {
	switch kind {
	case 0:
		s.bits = 8 * s.puts()
		length := s.number(16)
		s.stopIf(length+s.number(16) != 65535, api.BadStored)
		for range length {
			s.give(byte(s.number(8)))
		}
	case 1:
		s.symbols(fixedSet)
	case 2:
		s.dynamic()
	case 3:
		panic(halt{api.BadBlock})
	}
}

func (s *slow) dynamic() {
	literals, distances, smalls := 257+s.number(5), 1+s.number(5), 4+s.number(4)
	s.stopIf(literals > 286 || distances > 30, api.BadCodes)
	small := make([]int, 19)
	for _, symbol := range smallOrder()[:smalls] {
		small[symbol] = s.number(3)
	}
	s.stopIf(room(small) != 32768, api.BadCodes)
	c := codesOf(small)
	var row []int
	for len(row) < literals+distances {
		symbol := s.symbol(c)
		length, times := 0, 1
		switch {
		case symbol < 16:
			length = symbol
		case symbol == 16:
			s.stopIf(len(row) == 0, api.BadCodes)
			length, times = row[len(row)-1], 3+s.number(2)
		case symbol == 17:
			times = 3 + s.number(3)
		case symbol == 18:
			times = 11 + s.number(7)
		}
		row = append(row, slices.Repeat([]int{length}, times)...)
		s.stopIf(len(row) > literals+distances, api.BadCodes)
	}
	s.stopIf(row[256] == 0 || refused(row[:literals]) || refused(row[literals:]), api.BadCodes)
	s.symbols(set{codesOf(row[:literals]), codesOf(row[literals:])})
}

// symbol reads a code's symbol, up to the first bit with which there is none.
func (s *slow) symbol(c coded) int {
	digits := ""
	for {
		if symbol, ok := c.symbols[digits]; ok {
			return symbol
		}
		s.stopIf(!c.begun[digits], api.BadSymbol)
		digits += fmt.Sprint(s.number(1))
	}
}

func (s *slow) symbols(c set) {
	for {
		symbol := s.symbol(c.literals)
		if symbol == 256 {
			return
		}
		if symbol < 256 {
			s.give(byte(symbol))
			continue
		}
		s.stopIf(symbol > 285, api.BadSymbol)
		least, more := lengthOf(symbol)
		length := least + s.number(more)
		symbol = s.symbol(c.distances)
		s.stopIf(symbol > 29, api.BadSymbol)
		least, more = distanceOf(symbol)
		distance := least + s.number(more)
		s.stopIf(distance > len(s.answer.out), api.BadBack)
		for range length {
			s.give(s.answer.out[len(s.answer.out)-distance])
		}
	}
}

// lengthOf tells a length symbol's least length, and its bits: four symbols of each number of bits, from the fifth on.
func lengthOf(symbol int) (least, more int) {
	if symbol == 285 {
		return 258, 0
	}
	least = 3
	for i := range symbol - 257 {
		least += 1 << max(0, i/4-1)
	}
	return least, max(0, (symbol-257)/4-1)
}

// distanceOf tells a distance symbol's least distance, and its bits: two symbols of each number of bits, from the third on.
func distanceOf(symbol int) (least, more int) {
	least = 1
	for i := range symbol {
		least += 1 << max(0, i/2-1)
	}
	return least, max(0, symbol/2-1)
}

// upTo tells what the first n bytes give, of what more of them give (P9.4).
func (a answer) upTo(n int) answer {
	if a.used <= n && a.why != api.Cut {
		return a
	}
	known := 0
	for known < len(a.out) && a.at[known] <= n {
		known++
	}
	return answer{a.out[:known], a.at[:known], n, api.Cut}
}

// within tells what Whole answers (P9.3).
func (a answer) within(most int) answer {
	most = max(0, most)
	if len(a.out) > most {
		return answer{a.out[:most], a.at[:most], a.at[most], api.TooMuch}
	}
	return a
}

// wantWhole holds Whole against what is wanted.
func wantWhole(t *testing.T, b []byte, most int, want answer) {
	t.Helper()
	out, used, why := inflate.Whole(b, most)
	if !bytes.Equal(out, want.out) || used != want.used || why != want.why {
		t.Fatalf("Whole(%x, %d) = %x, %d, %d, not %x, %d, %d", short(b), most, short(out), used, int(why), short(want.out), want.used, int(want.why))
	}
}

// short cuts bytes that are too many to be told.
func short(b []byte) []byte { return b[:min(len(b), 300)] }

// wantMost holds Whole against the slow one, with the edges of most.
func wantMost(t *testing.T, b []byte, a answer) {
	t.Helper()
	n := len(a.out)
	for _, most := range []int{math.MinInt, -1, 0, 1, n / 2, n - 2, n - 1, n, n + 1, math.MaxInt} {
		wantWhole(t, b, most, a.within(most))
	}
}

// wantNothing tells it if an inflater would tell a byte, or is not just so far.
func wantNothing(t *testing.T, what string, d *inflate.Inflater, done bool, why api.Reason) {
	t.Helper()
	for range 2 {
		if b, ok := d.Next(); b != 0 || ok {
			t.Fatalf("%s: Next = %d, %v", what, b, ok)
		}
	}
	if d.Done() != done || d.Reason() != why {
		t.Fatalf("%s: Done = %v, Reason = %d, not %v, %d", what, d.Done(), int(d.Reason()), done, int(why))
	}
}

// wantWaiting tells it if an inflater that has a byte to tell takes one, ends, or says that it is over.
func wantWaiting(t *testing.T, what string, d *inflate.Inflater) {
	t.Helper()
	for _, b := range []byte{0, 7, 255} {
		if d.Put(b) {
			t.Fatalf("%s: Put ahead of Next", what)
		}
	}
	d.End()
	if d.Done() || d.Reason() != api.None {
		t.Fatalf("%s: Done = %v, Reason = %d, while there is a byte to tell", what, d.Done(), int(d.Reason()))
	}
}

// wantOver tells it if an inflater that is done or stopped does not stay so.
func wantOver(t *testing.T, what string, d *inflate.Inflater, why api.Reason) {
	t.Helper()
	for _, b := range []byte{0, 1, 3, 7, 255} {
		if d.Put(b) {
			t.Fatalf("%s: Put behind all", what)
		}
		wantNothing(t, what, d, why == api.None, why)
		d.End()
		wantNothing(t, what, d, why == api.None, why)
	}
}

// follow puts bytes into an inflater ahead of which nothing was put in, and holds all that it tells against what they give.
func follow(t *testing.T, d *inflate.Inflater, b []byte, a answer) {
	t.Helper()
	known := 0
	what := ""
	for i, v := range b {
		what = fmt.Sprintf("%x: byte %d", short(b), i+1)
		if i == a.used {
			break
		}
		wantNothing(t, what+" ahead", d, false, api.None)
		if !d.Put(v) {
			t.Fatalf("%s: Put = false", what)
		}
		for ; known < len(a.out) && a.at[known] == i+1; known++ {
			wantWaiting(t, what, d)
			if given, ok := d.Next(); given != a.out[known] || !ok {
				t.Fatalf("%s: Next = %d, %v, not %d", what, given, ok, a.out[known])
			}
		}
	}
	if a.why == api.Cut {
		wantNothing(t, what, d, false, api.None)
		d.End()
	}
	wantOver(t, what, d, a.why)
	if known != len(a.out) {
		t.Fatalf("%s: %d bytes were told, not %d", what, known, len(a.out))
	}
}

// hold holds all that is told of bytes against the slow one, and tells what that was.
func hold(t *testing.T, b []byte) answer {
	t.Helper()
	kept := slices.Clone(b)
	a := slowly(b)
	follow(t, inflate.New(), b, a)
	wantMost(t, b, a)
	if !bytes.Equal(b, kept) {
		t.Fatalf("%x: the bytes were changed", short(kept))
	}
	return a
}

// holdAll is hold, and Whole of every beginning too.
func holdAll(t *testing.T, b []byte) answer {
	t.Helper()
	a := hold(t, b)
	for n := range b {
		wantWhole(t, b[:n], math.MaxInt, a.upTo(n))
	}
	return a
}

// want is holdAll, and the answer must be this one.
func want(t *testing.T, b []byte, out string, used int, why api.Reason) {
	t.Helper()
	if a := holdAll(t, b); string(a.out) != out || a.used != used || a.why != why {
		t.Errorf("%x: %q, %d, %d, not %q, %d, %d", short(b), short(a.out), a.used, int(a.why), out, used, int(why))
	}
}
