package inflate_test

import (
	"bytes"
	"math"
	"math/rand"
	"strings"
	"testing"

	"winkle/api"
	"winkle/inflate"
)

// The chapter's rows, as they stand there.
var (
	lengthRow    = []int{3, 4, 5, 6, 7, 8, 9, 10, 11, 13, 15, 17, 19, 23, 27, 31, 35, 43, 51, 59, 67, 83, 99, 115, 131, 163, 195, 227, 258}
	lengthBits   = []int{0, 0, 0, 0, 0, 0, 0, 0, 1, 1, 1, 1, 2, 2, 2, 2, 3, 3, 3, 3, 4, 4, 4, 4, 5, 5, 5, 5, 0}
	distanceRow  = []int{1, 2, 3, 4, 5, 7, 9, 13, 17, 25, 33, 49, 65, 97, 129, 193, 257, 385, 513, 769, 1025, 1537, 2049, 3073, 4097, 6145, 8193, 12289, 16385, 24577}
	distanceBits = []int{0, 0, 0, 0, 1, 1, 2, 2, 3, 3, 4, 4, 5, 5, 6, 6, 7, 7, 8, 8, 9, 9, 10, 10, 11, 11, 12, 12, 13, 13}
)

// noise makes n bytes by chance.
func noise(n int) []byte {
	data := make([]byte, n)
	rand.New(rand.NewSource(10)).Read(data)
	return data
}

// copyBack lays bytes behind others, each one from the distance back.
func copyBack(data []byte, length, distance int) []byte {
	for range length {
		data = append(data, data[len(data)-distance])
	}
	return data
}

// Every length symbol with the least and the greatest bits behind it, and a middle, from each bit of a byte on.
func TestEveryLength(t *testing.T) {
	for symbol, least := range lengthRow {
		most := 1<<lengthBits[symbol] - 1
		for _, more := range []int{0, most / 2, most} {
			for bit := range 8 {
				w := new(writer)
				text := []byte(w.ahead(bit) + "xy")
				w.head(true, 1).text(fixedSet, "xy").symbol(fixedSet.literals, 257+symbol).number(more, lengthBits[symbol])
				w.symbol(fixedSet.distances, 1).end(fixedSet)
				text = copyBack(text, least+more, 2)
				if a := hold(t, w.bytes("0")); !bytes.Equal(a.out, text) || a.why != api.None || a.used != w.used() {
					t.Errorf("symbol %d and %d: %d bytes, not %d, why %d", 257+symbol, more, len(a.out), len(text), int(a.why))
				}
			}
		}
	}
}

// Every distance symbol with the least and the greatest bits behind it, and a middle, over a window that is full.
func TestEveryDistance(t *testing.T) {
	data := noise(32768)
	for symbol, least := range distanceRow {
		most := 1<<distanceBits[symbol] - 1
		for _, more := range []int{0, most / 2, most} {
			w := new(writer).stored(false, data).head(true, 1)
			w.symbol(fixedSet.literals, 258).symbol(fixedSet.distances, symbol).number(more, distanceBits[symbol]).end(fixedSet)
			text := copyBack(bytes.Clone(data), 4, least+more)
			out, used, why := inflate.Whole(w.bytes("0"), math.MaxInt)
			if !bytes.Equal(out, text) || used != w.used() || why != api.None {
				t.Errorf("symbol %d and %d: %d bytes, used %d, why %d", symbol, more, len(out), used, int(why))
			}
		}
	}
}

// Every distance symbol just where so many bytes were given, and where there is one fewer.
func TestDistancesAtTheBeginning(t *testing.T) {
	data := noise(32768)
	for symbol, least := range distanceRow {
		most := 1<<distanceBits[symbol] - 1
		for _, more := range []int{0, most} {
			for _, missing := range []int{0, 1} {
				n := least + more - missing
				w := new(writer).stored(false, data[:n]).head(true, 1)
				w.symbol(fixedSet.literals, 257).symbol(fixedSet.distances, symbol).number(more, distanceBits[symbol])
				used, text, why := w.used(), data[:n], api.BadBack
				w.end(fixedSet)
				if missing == 0 {
					used, text, why = w.used(), copyBack(bytes.Clone(text), 3, least+more), api.None
				}
				wantWhole(t, w.bytes("0"), math.MaxInt, answer{out: text, used: used, why: why})
			}
		}
	}
}

// BadBack is told with the last bit behind the distance symbol, from each bit of a byte on.
func TestBadBack(t *testing.T) {
	for bit := range 8 {
		for symbol, least := range distanceRow {
			if least <= bit+8 {
				continue
			}
			for _, more := range []int{0, 1<<distanceBits[symbol] - 1} {
				w := new(writer)
				text := w.ahead(bit)
				w.head(true, 1).symbol(fixedSet.literals, 264).symbol(fixedSet.distances, symbol).number(more, distanceBits[symbol])
				want(t, append(w.bytes("0"), 0, 0), text, w.used(), api.BadBack)
			}
		}
	}
}

// Distances of 1, of all that was given and of one more, as the given grow, in one block and across blocks of each kind.
func TestDistancesByWhatWasGiven(t *testing.T) {
	between := []func(w *writer) set{
		func(w *writer) set { return fixedSet },
		func(w *writer) set { w.end(fixedSet).head(true, 1); return fixedSet },
		func(w *writer) set {
			w.end(fixedSet).stored(false, nil).head(true, 1)
			return fixedSet
		},
		func(w *writer) set {
			w.end(fixedSet)
			return w.dynamicHead(true, lengthsOf(286, map[int]int{256: 1, 257: 1}), same(16, 4))
		},
	}
	for _, n := range []int{0, 1, 2, 3, 4, 7, 16, 39} {
		text := noise(n)
		for i, begin := range between {
			for _, distance := range []int{1, n / 2, n, n + 1} {
				if distance == 0 {
					continue
				}
				w := new(writer).head(i == 0, 1).text(fixedSet, string(text))
				c := begin(w)
				w.match(c, 3, distance)
				used := w.used()
				w.end(c)
				if distance > n {
					want(t, w.bytes("0"), string(text), used, api.BadBack)
					continue
				}
				want(t, w.bytes("0"), string(copyBack(bytes.Clone(text), 3, distance)), w.used(), api.None)
			}
		}
	}
}

// The window goes on over many more bytes than it holds, across blocks: matches of 32768 back, and of any distance.
func TestWindowGoesOn(t *testing.T) {
	dice := rand.New(rand.NewSource(11))
	text := noise(32768)
	w := new(writer).stored(false, text[:20000]).stored(false, text[20000:]).head(false, 1)
	for range 700 {
		length, distance := 3+dice.Intn(256), 32768
		if dice.Intn(4) == 0 {
			distance = 1 + dice.Intn(32768)
		}
		w.match(fixedSet, length, distance)
		text = copyBack(text, length, distance)
		if dice.Intn(8) == 0 {
			w.text(fixedSet, "!")
			text = append(text, '!')
		}
		if dice.Intn(16) == 0 {
			w.end(fixedSet).stored(false, []byte("stored")).head(false, 1)
			text = append(text, "stored"...)
		}
	}
	b := w.end(fixedSet).stored(true, nil).bytes("")
	wantWhole(t, b, math.MaxInt, answer{out: text, used: len(b), why: api.None})
}

// Symbols that mean nothing are told with their own last bit.
func TestSymbolsThatMeanNothing(t *testing.T) {
	for bit := range 8 {
		for _, symbol := range []int{286, 287} {
			w := new(writer)
			text := w.ahead(bit)
			w.head(true, 1).text(fixedSet, "q").symbol(fixedSet.literals, symbol)
			want(t, append(w.bytes("0"), 0, 0), text+"q", w.used(), api.BadSymbol)
		}
		for _, symbol := range []int{30, 31} {
			for _, length := range []int{3, 11, 12, 257, 258} {
				w := new(writer)
				text := w.ahead(bit)
				w.head(true, 1).text(fixedSet, "q").length(fixedSet, length).symbol(fixedSet.distances, symbol)
				want(t, append(w.bytes("0"), 0, 0), text+"q", w.used(), api.BadSymbol)
			}
		}
	}
}

// Without a distance code a length is stopped with the last of its own bits: no bit is asked for any more.
func TestNoDistanceCode(t *testing.T) {
	for bit := range 8 {
		for _, length := range []int{3, 131, 162} {
			for _, distances := range [][]int{{0}, make([]int, 30)} {
				w := new(writer)
				text := w.ahead(bit)
				c := w.dynamicHead(true, lengthsOf(286, map[int]int{'a': 2, 256: 2, 257: 2, 281: 2}), distances)
				w.text(c, "aa").length(c, length)
				want(t, append(w.bytes("0"), 0, 0), text+"aa", w.used(), api.BadSymbol)
			}
		}
		w := new(writer)
		text := w.ahead(bit)
		w.dynamic(true, lengthsOf(286, map[int]int{'a': 2, 256: 2, 257: 2, 281: 2}), []int{0}, "aaa")
		want(t, w.bytes("0"), text+"aaa", w.used(), api.None)
	}
}

// Of a distance code of a single bit 0 is the symbol, and 1 is none.
func TestOneDistanceCode(t *testing.T) {
	for bit := range 8 {
		for symbol := range 6 {
			w := new(writer)
			text := w.ahead(bit)
			c := w.dynamicHead(true, lengthsOf(258, map[int]int{'a': 2, 'b': 2, 256: 2, 257: 2}), lengthsOf(symbol+1, map[int]int{symbol: 1}))
			w.text(c, "abbabba").match(c, 3, distanceRow[symbol]).length(c, 3).raw("1")
			given := copyBack([]byte(text+"abbabba"), 3, distanceRow[symbol])
			want(t, append(w.bytes("0"), 0, 0), string(given), w.used(), api.BadSymbol)
		}
	}
}

// Of a literal code of a single bit, that of 256, 0 ends the block, and 1 is no symbol's: both told with that bit.
func TestOneLiteralCode(t *testing.T) {
	for bit := range 8 {
		for _, distances := range [][]int{{0}, {1}, {1, 1}} {
			w := new(writer)
			text := w.ahead(bit)
			c := w.dynamicHead(true, lengthsOf(257, map[int]int{256: 1}), distances)
			begun := w.digits.String()
			w.end(c)
			want(t, append(w.bytes("1"), 0), text, w.used(), api.None)
			w = new(writer).raw(begun).raw("1")
			want(t, append(w.bytes("0"), 0), text, w.used(), api.BadSymbol)
		}
	}
}

// Each literal, match and end is told with the byte in which its last bit lies: at each bit of a byte, written out.
func TestToldInTime(t *testing.T) {
	for bit := range 8 {
		w := new(writer)
		w.ahead(bit)
		d := inflate.New()
		var at []int
		w.head(true, 1)
		for _, step := range []func(){
			func() { w.text(fixedSet, "a") },
			func() { w.text(fixedSet, "\xfe") },
			func() { w.match(fixedSet, 3, 1) },
			func() { w.match(fixedSet, 258, 2) },
			func() { w.match(fixedSet, 20, 6) },
			func() { w.text(fixedSet, "z") },
			func() { w.end(fixedSet) },
		} {
			step()
			at = append(at, w.used())
		}
		many := []int{1, 1, 3, 258, 20, 1}
		told := -((bit + 6) % 8)
		for i, v := range w.bytes("0") {
			if !d.Put(v) {
				t.Fatalf("bit %d: Put of byte %d = false", bit, i+1)
			}
			for _, ok := d.Next(); ok; _, ok = d.Next() {
				told++
			}
			known := 0
			for j, n := range many {
				if at[j] <= i+1 {
					known += n
				}
			}
			if told >= 0 && told != known || d.Done() != (at[6] == i+1) {
				t.Errorf("bit %d: behind %d bytes %d were told, not %d, Done = %v", bit, i+1, told, known, d.Done())
			}
		}
	}
}

// A match may reach into bytes that it gives itself, and across all kinds of blocks.
func TestMatchesAcrossBlocks(t *testing.T) {
	w := new(writer).stored(false, []byte("stored"))
	w.head(false, 1).match(fixedSet, 6, 6).text(fixedSet, "F").match(fixedSet, 9, 7).end(fixedSet)
	text := copyBack(append(copyBack([]byte("stored"), 6, 6), 'F'), 9, 7)
	c := w.dynamicHead(false, lengthsOf(286, map[int]int{'D': 2, 256: 2, 264: 2, 285: 2}), same(16, 4))
	w.match(c, 10, len(text)).text(c, "D").match(c, 258, 1).end(c)
	text = copyBack(append(copyBack(text, 10, len(text)), 'D'), 258, 1)
	w.stored(false, []byte("again")).head(true, 1).match(fixedSet, 100, len(text)+5).match(fixedSet, 258, 5).end(fixedSet)
	text = append(text, "again"...)
	text = copyBack(copyBack(text, 100, len(text)), 258, 5)
	want(t, w.bytes("0"), string(text), w.used(), api.None)
	if !strings.HasPrefix(string(text), "storedstoredFstoredF") {
		t.Error(string(text[:20]))
	}
}
