package inflate_test

import (
	"fmt"
	"slices"
	"strings"
)

// coded is a code: digits 0 and 1, the first one first.
type coded struct {
	digits  []string       // by the symbols; empty where there is none
	symbols map[string]int // by the digits
	begun   map[string]bool
}

// set is the codes of a block.
type set struct{ literals, distances coded }

// fixedSet are those of a fixed block.
var fixedSet = set{codesOf(fixedLengths()), codesOf(same(32, 5))}

func fixedLengths() []int {
	return slices.Concat(same(144, 8), same(112, 9), same(24, 7), same(8, 8))
}

// same makes a list of n times a length.
func same(n, length int) []int { return slices.Repeat([]int{length}, n) }

// room is the sum of lengths (chapter 8).
func room(lengths []int) int {
	sum := 0
	for _, length := range lengths {
		if length > 0 {
			sum += 32768 >> length
		}
	}
	return sum
}

// refused tells whether chapter 8 refuses lengths that may be.
func refused(lengths []int) bool {
	codes := slices.DeleteFunc(slices.Clone(lengths), func(length int) bool { return length == 0 })
	return room(lengths) != 32768 && len(codes) > 0 && !slices.Equal(codes, []int{1})
}

// codesOf makes the codes of lengths (chapter 8).
func codesOf(lengths []int) coded {
	c := coded{make([]string, len(lengths)), map[string]int{}, map[string]bool{}}
	next := 0
	for length := 1; length <= 15; length++ {
		next *= 2
		for symbol, l := range lengths {
			if l != length {
				continue
			}
			digits := fmt.Sprintf("%0*b", length, next)
			next++
			c.digits[symbol] = digits
			c.symbols[digits] = symbol
			for n := range digits {
				c.begun[digits[:n]] = true
			}
		}
	}
	return c
}

// smallOrder is the order in which lengths of lengths stand.
func smallOrder() []int {
	return []int{16, 17, 18, 0, 8, 7, 9, 6, 10, 5, 11, 4, 12, 3, 13, 2, 14, 1, 15}
}

// writer writes deflated bytes, as digits 0 and 1.
type writer struct{ digits strings.Builder }

// bytes are those that were written; the fill takes the last one's other bits.
func (w *writer) bytes(fill string) []byte {
	digits := w.digits.String()
	for len(digits)%8 != 0 {
		digits += fill
	}
	list := make([]byte, len(digits)/8)
	for i, digit := range digits {
		list[i/8] |= byte(digit-'0') << (i % 8)
	}
	return list
}

// used is how many bytes there are so far.
func (w *writer) used() int { return (w.digits.Len() + 7) / 8 }

// raw writes digits as they stand.
func (w *writer) raw(digits string) *writer {
	w.digits.WriteString(digits)
	return w
}

// number writes a number of n bits.
func (w *writer) number(v, n int) *writer {
	for i := range n {
		w.digits.WriteByte('0' + byte(v>>i&1))
	}
	return w
}

// head begins a block.
func (w *writer) head(last bool, kind int) *writer {
	if last {
		return w.raw("1").number(kind, 2)
	}
	return w.raw("0").number(kind, 2)
}

// storedHead begins a stored block of two numbers; the fill takes the bits ahead of them.
func (w *writer) storedHead(last bool, fill string, length, other int) *writer {
	w.head(last, 0)
	for w.digits.Len()%8 != 0 {
		w.raw(fill)
	}
	return w.number(length, 16).number(other, 16)
}

// stored writes a stored block.
func (w *writer) stored(last bool, data []byte) *writer {
	w.storedHead(last, "1", len(data), 65535-len(data))
	for _, b := range data {
		w.number(int(b), 8)
	}
	return w
}

// symbol writes a symbol's code; without one it falls.
func (w *writer) symbol(c coded, symbol int) *writer {
	if c.digits[symbol] == "" {
		panic(fmt.Sprint("no code: ", symbol))
	}
	return w.raw(c.digits[symbol])
}

// text writes bytes as literal symbols.
func (w *writer) text(c set, text string) *writer {
	for i := range len(text) {
		w.symbol(c.literals, int(text[i]))
	}
	return w
}

// match writes a length and a distance.
func (w *writer) match(c set, length, distance int) *writer {
	return w.length(c, length).distance(c, distance)
}

// length writes a length; 258 by the symbol of its own.
func (w *writer) length(c set, length int) *writer {
	symbol := 285
	for least, _ := lengthOf(symbol); least > length; least, _ = lengthOf(symbol) {
		symbol--
	}
	least, more := lengthOf(symbol)
	return w.symbol(c.literals, symbol).number(length-least, more)
}

// distance writes a distance.
func (w *writer) distance(c set, distance int) *writer {
	symbol := 29
	for least, _ := distanceOf(symbol); least > distance; least, _ = distanceOf(symbol) {
		symbol--
	}
	least, more := distanceOf(symbol)
	return w.symbol(c.distances, symbol).number(distance-least, more)
}

// end ends a fixed or a dynamic block.
func (w *writer) end(c set) *writer { return w.symbol(c.literals, 256) }

// fixed writes a fixed block of literals.
func (w *writer) fixed(last bool, text string) *writer {
	return w.head(last, 1).text(fixedSet, text).end(fixedSet)
}

// plan begins a dynamic block of so many lengths, with lengths of lengths for just the first symbols in their order.
func (w *writer) plan(last bool, literals, distances int, small []int, smalls int) *writer {
	w.head(last, 2).number(literals-257, 5).number(distances-1, 5).number(smalls-4, 4)
	for _, symbol := range smallOrder()[:smalls] {
		w.number(small[symbol], 3)
	}
	return w
}

// evenSmall are full lengths of lengths, with a code for each symbol.
func evenSmall() []int { return slices.Concat(same(13, 4), same(6, 5)) }

// evenCodes are their codes.
var evenCodes = codesOf(evenSmall())

// dynamicHead begins a dynamic block of lengths that stand there one by one, and tells its codes.
func (w *writer) dynamicHead(last bool, literals, distances []int) set {
	w.plan(last, len(literals), len(distances), evenSmall(), 19).row(literals).row(distances)
	return set{codesOf(literals), codesOf(distances)}
}

// dynamic writes a dynamic block of literals.
func (w *writer) dynamic(last bool, literals, distances []int, text string) *writer {
	c := w.dynamicHead(last, literals, distances)
	return w.text(c, text).end(c)
}

// row writes lengths of a dynamic block, one by one.
func (w *writer) row(lengths []int) *writer {
	for _, length := range lengths {
		w.symbol(evenCodes, length)
	}
	return w
}

// run writes a run of lengths: of 3 to 6 by 16, of 3 to 10 by 17, of 11 to 138 by 18.
func (w *writer) run(symbol, times int) *writer {
	r := runs[symbol-16]
	return w.symbol(evenCodes, symbol).number(times-r.least, r.bits)
}

// runs are the least times of 16, 17 and 18, and how many bits say how many more.
var runs = []struct{ symbol, least, bits int }{{16, 3, 2}, {17, 3, 3}, {18, 11, 7}}

// lengthsOf makes n lengths, all 0 but for some symbols.
func lengthsOf(n int, some map[int]int) []int {
	lengths := make([]int, n)
	for symbol, length := range some {
		lengths[symbol] = length
	}
	return lengths
}

// ahead begins a text of bits by a block that is not the last one, so that the next one begins at bit n of a byte; it tells what that block gives.
func (w *writer) ahead(n int) string {
	text := strings.Repeat("\xff", (n+6)%8) // ten bits, and nine for each of these
	w.fixed(false, text)
	if w.digits.Len()%8 != n {
		panic("a wrong bit")
	}
	return text
}
