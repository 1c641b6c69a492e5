package inflate_test

import (
	"bytes"
	"math/rand"
	"slices"
	"strings"
	"testing"

	"winkle/api"
	"winkle/inflate"
)

// Stored blocks of few and of most bytes, from each bit of a byte on; the bits ahead of them may be anything.
func TestStored(t *testing.T) {
	for bit := range 8 {
		for _, fill := range []string{"0", "1"} {
			for _, n := range []int{0, 1, 2, 255, 256} {
				data := noise(n)
				w := new(writer)
				text := w.ahead(bit)
				w.storedHead(true, fill, n, 65535-n)
				head := w.bytes("")
				want(t, slices.Concat(head, data), text+string(data), len(head)+n, api.None)
			}
		}
	}
}

// A stored block of 65535 bytes, from each bit of a byte on; one byte fewer is cut.
func TestLongestStored(t *testing.T) {
	data := noise(65535)
	for bit := range 8 {
		w := new(writer)
		text := w.ahead(bit)
		w.storedHead(true, "1", 65535, 0)
		b := slices.Concat(w.bytes(""), data)
		a := slowly(b)
		if string(a.out) != text+string(data) || a.why != api.None {
			t.Fatal(bit, a.why)
		}
		follow(t, inflate.New(), b, a)
		wantMost(t, b, a)
		wantMost(t, b[:len(b)-1], a.upTo(len(b)-1))
	}
}

// BadStored, with the last byte of the two numbers, from each bit of a byte on.
func TestBadStored(t *testing.T) {
	for bit := range 8 {
		for _, c := range [][2]int{{0, 0}, {0, 65534}, {1, 65535}, {65535, 65535}, {65535, 1}, {3, 65533}, {3, 65531}, {0, 32767}, {0x0100, 0xfffe}, {0x0100, 0xfeff &^ 1}, {0xff00, 0xff00}} {
			w := new(writer)
			text := w.ahead(bit)
			w.storedHead(true, "0", c[0], c[1])
			want(t, append(w.bytes(""), 1, 2, 3), text, w.used(), api.BadStored)
		}
	}
}

// The kind 3, with the byte in which its bits end, at each bit of a byte, last or not.
func TestBadBlock(t *testing.T) {
	for bit := range 8 {
		for _, last := range []bool{false, true} {
			w := new(writer)
			text := w.ahead(bit)
			w.head(last, 3)
			want(t, append(w.bytes("1"), 0), text, w.used(), api.BadBlock)
		}
	}
}

// shortBlocks write a block each, and tell what it gives.
func shortBlocks() []func(w *writer, last bool) string {
	literals := lengthsOf(257, map[int]int{'x': 3, 'y': 3, 'z': 2, 256: 1})
	return []func(w *writer, last bool) string{
		func(w *writer, last bool) string { w.stored(last, nil); return "" },
		func(w *writer, last bool) string { w.stored(last, []byte("st")); return "st" },
		func(w *writer, last bool) string { w.fixed(last, ""); return "" },
		func(w *writer, last bool) string { w.fixed(last, "f\xfe"); return "f\xfe" },
		func(w *writer, last bool) string { w.dynamic(last, literals, []int{0}, ""); return "" },
		func(w *writer, last bool) string { w.dynamic(last, literals, []int{1, 1}, "xyz"); return "xyz" },
	}
}

// Blocks of each kind, one behind the other in each order, the last one marked and not.
func TestBlocksInEachOrder(t *testing.T) {
	blocks := shortBlocks()
	for first := range blocks {
		for second := range blocks {
			for third := range blocks {
				for _, last := range []bool{false, true} {
					w := new(writer)
					text := blocks[first](w, false) + blocks[second](w, false) + blocks[third](w, last)
					why := api.Cut
					if last {
						why = api.None
					}
					b := w.bytes("0")
					if a := hold(t, b); string(a.out) != text || a.used != len(b) || a.why != why {
						t.Errorf("%d %d %d: %q, %d, %d, not %q", first, second, third, a.out, a.used, int(a.why), text)
					}
				}
			}
		}
	}
}

// Where the last one is marked, what stands behind it is no block.
func TestLastBlockAlone(t *testing.T) {
	for i, block := range shortBlocks() {
		w := new(writer)
		text := block(w, true)
		used := w.used()
		for _, other := range shortBlocks() {
			other(w, true)
		}
		if a := hold(t, w.bytes("1")); string(a.out) != text || a.used != used || a.why != api.None {
			t.Errorf("%d: %q, %d, %d", i, a.out, a.used, int(a.why))
		}
	}
}

// Every literal of fixed blocks and of dynamic ones, from each bit of a byte on.
func TestEveryLiteral(t *testing.T) {
	var all []byte
	for i := range 256 {
		all = append(all, byte(i))
	}
	for bit := range 8 {
		w := new(writer)
		text := w.ahead(bit)
		w.fixed(false, string(all)).dynamic(true, slices.Concat(same(255, 8), []int{9, 9}), []int{0}, string(all))
		if a := hold(t, w.bytes("0")); string(a.out) != text+string(all)+string(all) || a.why != api.None {
			t.Error(bit, len(a.out), int(a.why))
		}
	}
}

// How many literal and distance lengths there may be; too many are told with the last one of the three numbers.
func TestCounts(t *testing.T) {
	for bit := range 8 {
		for _, literals := range []int{257, 258, 285, 286, 287, 288} {
			for _, distances := range []int{1, 2, 29, 30, 31, 32} {
				w := new(writer)
				text := w.ahead(bit)
				if literals > 286 || distances > 30 {
					w.head(true, 2).number(literals-257, 5).number(distances-1, 5).number(15, 4)
					want(t, append(w.bytes("0"), 0, 0, 0), text, w.used(), api.BadCodes)
					continue
				}
				w.dynamic(true, lengthsOf(literals, map[int]int{256: 1, 'q': 1}), lengthsOf(distances, map[int]int{distances - 1: 1}), "q")
				if a := hold(t, w.bytes("0")); string(a.out) != text+"q" || a.used != w.used() || a.why != api.None {
					t.Errorf("%d and %d: %q, %d", literals, distances, a.out, int(a.why))
				}
			}
		}
	}
}

// The last one of the most lengths may be used: symbol 285, and distance symbol 29.
func TestLastSymbols(t *testing.T) {
	data := noise(32768)
	w := new(writer).stored(false, data)
	c := w.dynamicHead(true, lengthsOf(286, map[int]int{256: 1, 285: 1}), lengthsOf(30, map[int]int{29: 1}))
	w.match(c, 258, 32768).end(c)
	b := w.bytes("0")
	a := slowly(b)
	if !bytes.Equal(a.out, slices.Concat(data, data[:258])) || a.why != api.None {
		t.Fatal(len(a.out), int(a.why))
	}
	follow(t, inflate.New(), b, a)
	wantMost(t, b, a)
}

// Lengths of lengths of each number of them: full ones are taken; such as leave room, need more than there is, or are none or one are not.
func TestLengthsOfLengths(t *testing.T) {
	for smalls := 4; smalls <= 19; smalls++ {
		for bit := range 8 {
			for name, lengths := range map[string][]int{
				"none":      nil,
				"one":       {1},
				"one of 7":  {7},
				"two of 2":  {2, 2},
				"three":     {1, 1, 1},
				"over by 7": {1, 1, 7},
				"under":     {1, 2, 3},
			} {
				small := make([]int, 19)
				for i, length := range lengths {
					small[smallOrder()[smalls-1-i]] = length // those that come last, so that no one is missed
				}
				w := new(writer)
				text := w.ahead(bit)
				w.plan(true, 257, 1, small, smalls)
				used := w.used()
				if a := hold(t, append(w.bytes("0"), 0, 0)); string(a.out) != text || a.used != used || a.why != api.BadCodes {
					t.Errorf("%s of %d: %q, %d, %d", name, smalls, a.out, a.used, int(a.why))
				}
			}
		}
	}
}

// Full lengths of lengths, as few as can be: those that are not there are 0, whatever an earlier block said.
func TestFewLengthsOfLengths(t *testing.T) {
	row := slices.Concat([]int{0}, same(256, 8), []int{0})
	codes := set{codesOf(row[:257]), codesOf(row[257:])}
	for smalls := 5; smalls <= 19; smalls++ { // symbol 8 is the fifth
		small := lengthsOf(19, map[int]int{0: 1, 8: 1})
		w := new(writer)
		w.dynamic(false, lengthsOf(257, map[int]int{'b': 1, 256: 1}), []int{0}, "b") // with all 19
		w.plan(true, 257, 1, small, smalls)
		for _, length := range row {
			w.symbol(codesOf(small), length)
		}
		w.text(codes, "a").end(codes)
		want(t, w.bytes("0"), "ba", w.used(), api.None)
	}
}

// The order of the lengths of lengths: 0 and any other length may be the only ones that have codes.
func TestOrderOfLengthsOfLengths(t *testing.T) {
	for length := 1; length <= 15; length++ {
		// As many codes of this length as are full; from 9 on there are not so many symbols, and the lengths are refused.
		literals := lengthsOf(257, map[int]int{256: length})
		for i := range min(1<<length, 257) - 1 {
			literals[i] = length
		}
		small := lengthsOf(19, map[int]int{0: 1, length: 1})
		w := new(writer)
		w.plan(true, 257, 1, small, 19)
		for _, l := range append(literals, 0) {
			w.symbol(codesOf(small), l)
		}
		used, why := w.used(), api.BadCodes
		if length <= 8 {
			c := set{codesOf(literals), codesOf([]int{0})}
			w.symbol(c.literals, 0).end(c)
			used, why = w.used(), api.None
		}
		a := hold(t, append(w.bytes("0"), 0, 0))
		if a.used != used || a.why != why || why == api.None && string(a.out) != "\x00" {
			t.Errorf("length %d: %q, %d, not %d, %d", length, a.out, a.used, used, int(a.why))
		}
	}
}

// A 16 ahead of any length is told with its own last bit, ahead of those behind it.
func TestNothingToRepeat(t *testing.T) {
	for bit := range 8 {
		for _, fill := range []string{"0", "1"} {
			w := new(writer)
			text := w.ahead(bit)
			w.plan(true, 257, 1, evenSmall(), 19)
			w.symbol(evenCodes, 16)
			used := w.used()
			want(t, append(w.raw(fill+fill).bytes(fill), 0, 0), text, used, api.BadCodes)
		}
	}
}

// Runs of each kind and of each number among the literal lengths.
func TestRuns(t *testing.T) {
	for _, r := range runs {
		for times := r.least; times < r.least+1<<r.bits; times++ {
			literals := lengthsOf(257, map[int]int{'a': 1, 256: 1})
			w := new(writer).plan(true, 257, 1, evenSmall(), 19).row(literals[:99]) // 'a', and a nought behind it
			w.run(r.symbol, times).row(literals[99+times:]).row([]int{0})
			c := set{codesOf(literals), codesOf([]int{0})}
			w.text(c, "aaa").end(c)
			if a := hold(t, w.bytes("0")); string(a.out) != "aaa" || a.used != w.used() || a.why != api.None {
				t.Errorf("%d noughts by %d: %q, %d, %d", times, r.symbol, a.out, a.used, int(a.why))
			}
		}
	}
}

// What a 16 tells again: a length of any kind, one that came by a 16, and noughts that came by 17 and 18.
func TestTheLastLengthAgain(t *testing.T) {
	for times := 3; times <= 6; times++ {
		literals := slices.Concat(same(times+1, 4), same(256-times-1, 0), []int{4})
		for i := range 16 - times - 2 {
			literals[100+i] = 4
		}
		w := new(writer).plan(true, 257, 1, evenSmall(), 19).row([]int{4}).run(16, times).row(literals[times+1:]).row([]int{0})
		c := set{codesOf(literals), codesOf([]int{0})}
		w.text(c, string([]byte{0, byte(times), 100})).end(c)
		want(t, w.bytes("0"), string([]byte{0, byte(times), 100}), w.used(), api.None)
	}
	literals := slices.Concat(same(15, 4), make([]int, 241), []int{4})
	w := new(writer).plan(true, 257, 1, evenSmall(), 19).row([]int{4}).run(16, 6).run(16, 3).run(16, 5)
	w.run(17, 3).run(16, 4).run(18, 138).run(16, 6).run(17, 10).run(18, 74).run(16, 6).row([]int{4, 0})
	c := set{codesOf(literals), codesOf([]int{0})}
	w.text(c, "\x0e\x00").end(c)
	want(t, w.bytes("0"), "\x0e\x00", w.used(), api.None)
}

// Runs up to just the end of the row, across from the literal to the distance lengths, and one beyond that, with the number's last bit.
func TestRunsToTheEnd(t *testing.T) {
	for _, r := range runs {
		for times := r.least; times < r.least+1<<r.bits; times++ {
			for beyond := range 2 {
				for _, distances := range []int{1, 2, 30} {
					row := lengthsOf(286+distances, map[int]int{'a': 1, 256: 1})
					begun := len(row) - times + beyond
					w := new(writer).plan(true, 286, distances, evenSmall(), 19).row(row[:begun]).run(r.symbol, times)
					used := w.used()
					if beyond == 1 || begun <= 256 { // where it covers 256, too, that has no code
						if a := hold(t, append(w.bytes("0"), 0)); a.used != used || a.why != api.BadCodes || len(a.out) > 0 {
							t.Errorf("%d by %d, %d beyond %d: used %d, not %d, why %d", times, r.symbol, beyond, len(row), a.used, used, int(a.why))
						}
						continue
					}
					c := set{codesOf(row[:286]), codesOf(row[286:])}
					w.text(c, "aa").end(c)
					if a := hold(t, w.bytes("0")); string(a.out) != "aa" || a.used != w.used() || a.why != api.None {
						t.Errorf("%d by %d, up to %d: %q, used %d, why %d", times, r.symbol, len(row), a.out, a.used, int(a.why))
					}
				}
			}
		}
	}
}

// A 16 that begins with the last literal lengths and tells distance lengths, too.
func TestTheLastLengthAcross(t *testing.T) {
	for ahead := range 4 { // how many literal lengths come of the run
		literals := slices.Concat(make([]int, 253), []int{2, 2, 2, 2})
		distances := same(4, 2)
		w := new(writer).plan(true, 257, 4, evenSmall(), 19).row(literals[:257-ahead]).run(16, 3+ahead%3)
		w.row(same(8-(4-ahead)-(3+ahead%3), 2))
		c := set{codesOf(literals), codesOf(distances)}
		w.text(c, "\xfd\xfe\xff").end(c)
		want(t, w.bytes("0"), "\xfd\xfe\xff", w.used(), api.None)
	}
}

// BadCodes of lengths, with the last bit of the last one: symbol 256 without a code, and such as chapter 8 refuses.
func TestBadCodes(t *testing.T) {
	for name, c := range map[string]struct{ literals, distances []int }{
		"no 256":                 {lengthsOf(257, map[int]int{'a': 1, 'b': 1}), []int{1, 1}},
		"no 256, one code":       {lengthsOf(257, map[int]int{'a': 1}), []int{0}},
		"no codes":               {lengthsOf(257, nil), []int{0}},
		"no codes but distances": {lengthsOf(286, nil), []int{1, 1}},
		"literals over":          {lengthsOf(257, map[int]int{'a': 1, 'b': 1, 256: 1}), []int{1, 1}},
		"literals over by one":   {lengthsOf(257, map[int]int{'a': 1, 'b': 1, 256: 15}), []int{1, 1}},
		"literals under":         {lengthsOf(257, map[int]int{'a': 1, 256: 2}), []int{1, 1}},
		"literals one of 2":      {lengthsOf(257, map[int]int{256: 2}), []int{1, 1}},
		"literals one of 15":     {lengthsOf(257, map[int]int{256: 15}), []int{0}},
		"distances over":         {lengthsOf(257, map[int]int{'a': 1, 256: 1}), []int{1, 1, 1}},
		"distances over by one":  {lengthsOf(257, map[int]int{'a': 1, 256: 1}), []int{1, 1, 15}},
		"distances under":        {lengthsOf(257, map[int]int{'a': 1, 256: 1}), []int{1, 2}},
		"distances one of 2":     {lengthsOf(257, map[int]int{'a': 1, 256: 1}), []int{0, 2}},
		"both":                   {lengthsOf(257, map[int]int{'a': 1, 'b': 1, 256: 1}), []int{3}},
		"full across the two":    {lengthsOf(257, map[int]int{256: 2, 'a': 2}), []int{2, 2}},
	} {
		for bit := range 8 {
			w := new(writer)
			text := w.ahead(bit)
			w.dynamicHead(true, c.literals, c.distances)
			used := w.used()
			if a := hold(t, append(w.bytes("1"), 0, 0)); string(a.out) != text || a.used != used || a.why != api.BadCodes {
				t.Errorf("%s: %q, %d, not %d, %d", name, a.out, a.used, used, int(a.why))
			}
		}
	}
}

// Codes as long as can be: 1 to 15, and 15 again.
func TestLongCodes(t *testing.T) {
	literals := make([]int, 286)
	symbols := []int{256, 'a', 'b', 'c', 'd', 'e', 'f', 'g', 'h', 'i', 'j', 'k', 257, 284, 285, 'z'}
	for i, symbol := range symbols {
		literals[symbol] = min(i+1, 15)
	}
	distances := make([]int, 30)
	for i := range 16 {
		distances[i] = min(16-i, 15)
	}
	for bit := range 8 {
		w := new(writer)
		text := w.ahead(bit)
		c := w.dynamicHead(true, literals, distances)
		w.text(c, "abcdefghijkz").match(c, 3, 1).match(c, 258, 12).match(c, 227, 193).end(c)
		a := hold(t, w.bytes("0"))
		if !strings.HasPrefix(string(a.out), text+"abcdefghijkzzzz") || len(a.out) != len(text)+12+3+258+227 || a.why != api.None {
			t.Error(bit, len(a.out), int(a.why))
		}
	}
}

// anyFull makes full lengths of so many codes (two or more), none above most, by splitting any one again and again.
func anyFull(dice *rand.Rand, codes, most int) []int {
	lengths := []int{1, 1}
	for len(lengths) < codes {
		if i := dice.Intn(len(lengths)); lengths[i] < most {
			lengths[i]++
			lengths = append(lengths, lengths[i])
		}
	}
	dice.Shuffle(len(lengths), func(i, j int) { lengths[i], lengths[j] = lengths[j], lengths[i] })
	return lengths
}

// scattered lays lengths at any places of n, one of them at the last.
func scattered(dice *rand.Rand, lengths []int, n int) []int {
	row := make([]int, n)
	row[n-1] = lengths[0]
	for i, place := range dice.Perm(n - 1)[:len(lengths)-1] {
		row[place] = lengths[1+i]
	}
	return row
}

// shortened writes lengths by small symbols, now and then by a run where one may stand; each with how often it is told.
func shortened(dice *rand.Rand, row []int) (list [][2]int) {
	for i := 0; i < len(row); {
		same := 1
		for i+same < len(row) && row[i+same] == row[i] {
			same++
		}
		next := [2]int{row[i], 1}
		switch kind := dice.Intn(4); {
		case kind == 1 && i > 0 && row[i] == row[i-1] && same >= 3:
			next = [2]int{16, min(3+dice.Intn(4), same)}
		case kind == 2 && row[i] == 0 && same >= 3:
			next = [2]int{17, min(3+dice.Intn(8), same)}
		case kind == 3 && row[i] == 0 && same >= 11:
			next = [2]int{18, min(11+dice.Intn(128), same)}
		}
		list = append(list, next)
		i += next[1]
	}
	return list
}

// anyDynamicHead begins a dynamic block of lengths that are written in any way that may be.
func (w *writer) anyDynamicHead(dice *rand.Rand, literals, distances []int) set {
	list := shortened(dice, slices.Concat(literals, distances))
	var symbols []int
	for _, s := range list {
		if !slices.Contains(symbols, s[0]) {
			symbols = append(symbols, s[0])
		}
	}
	for len(symbols) < 2 || dice.Intn(4) == 0 && len(symbols) < 19 {
		if s := dice.Intn(19); !slices.Contains(symbols, s) {
			symbols = append(symbols, s)
		}
	}
	small, smalls := make([]int, 19), 4
	for i, length := range anyFull(dice, len(symbols), 7) {
		small[symbols[i]] = length
		smalls = max(smalls, 1+slices.Index(smallOrder(), symbols[i]))
	}
	w.plan(false, len(literals), len(distances), small, smalls+dice.Intn(20-smalls))
	c := codesOf(small)
	for _, s := range list {
		w.symbol(c, s[0])
		if s[0] >= 16 {
			w.number(s[1]-runs[s[0]-16].least, runs[s[0]-16].bits)
		}
	}
	return set{codesOf(literals), codesOf(distances)}
}

// anySymbols writes symbols that a block's codes have, and tells the text with what they give behind it.
func (w *writer) anySymbols(dice *rand.Rand, c set, text []byte) []byte {
	for range dice.Intn(60) {
		symbol := dice.Intn(len(c.literals.digits))
		distance := dice.Intn(len(c.distances.digits))
		if c.literals.digits[symbol] == "" || symbol == 256 {
			continue
		}
		if symbol < 256 {
			w.symbol(c.literals, symbol)
			text = append(text, byte(symbol))
			continue
		}
		length, bits := lengthOf(symbol)
		back, backBits := distanceOf(distance)
		more, backMore := dice.Intn(1<<bits), dice.Intn(1<<backBits)
		if c.distances.digits[distance] != "" && back+backMore <= len(text) {
			w.symbol(c.literals, symbol).number(more, bits).symbol(c.distances, distance).number(backMore, backBits)
			text = copyBack(text, length+more, back+backMore)
		}
	}
	w.end(c)
	return text
}

// Theorem 5: dynamic blocks of any codes, written in any way, are given back.
func TestAnyDynamicBlocks(t *testing.T) {
	dice := rand.New(rand.NewSource(12))
	for range 300 {
		w := new(writer)
		var text []byte
		for range 1 + dice.Intn(3) {
			literals := scattered(dice, anyFull(dice, 2+dice.Intn(200), 15), 257+dice.Intn(30))
			if literals[256] == 0 { // it takes another one's place
				i := slices.IndexFunc(literals, func(length int) bool { return length > 0 })
				literals[256], literals[i] = literals[i], 0
			}
			distances := lengthsOf(1+dice.Intn(30), map[int]int{0: dice.Intn(2)})
			if n := len(distances); n > 2 && dice.Intn(4) > 0 {
				distances = scattered(dice, anyFull(dice, 2+dice.Intn(n-2), 15), n)
			}
			text = w.anySymbols(dice, w.anyDynamicHead(dice, literals, distances), text)
		}
		b := w.stored(true, nil).bytes("")
		if a := hold(t, b); !bytes.Equal(a.out, text) || a.used != len(b) || a.why != api.None {
			t.Errorf("%x: %d bytes, not %d, used %d, why %d", short(b), len(a.out), len(text), a.used, int(a.why))
		}
	}
}
