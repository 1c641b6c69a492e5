package inflate

import (
	"winkle/api"
	"winkle/huffman"
)

const (
	blockEnd    = 256 // the literal symbol with which a block ends
	firstLength = 257 // the first one that is a length
)

// Lengths, from firstLength on: the least one, and how many bits say how much more it is.
var (
	lengthLeast = [...]uint16{3, 4, 5, 6, 7, 8, 9, 10, 11, 13, 15, 17, 19, 23, 27, 31, 35, 43, 51, 59, 67, 83, 99, 115, 131, 163, 195, 227, 258}
	lengthBits  = [...]uint8{0, 0, 0, 0, 0, 0, 0, 0, 1, 1, 1, 1, 2, 2, 2, 2, 3, 3, 3, 3, 4, 4, 4, 4, 5, 5, 5, 5, 0}
)

// Distances, likewise.
var (
	distanceLeast = [...]uint16{1, 2, 3, 4, 5, 7, 9, 13, 17, 25, 33, 49, 65, 97, 129, 193, 257, 385, 513, 769, 1025, 1537, 2049, 3073, 4097, 6145, 8193, 12289, 16385, 24577}
	distanceBits  = [...]uint8{0, 0, 0, 0, 1, 1, 2, 2, 3, 3, 4, 4, 5, 5, 6, 6, 7, 7, 8, 8, 9, 9, 10, 10, 11, 11, 12, 12, 13, 13}
)

// read reads a symbol, if its bits are there.
func (d *Inflater) read(t *huffman.Table) (int, bool) {
	symbol, how := t.Read(d.in)
	if how == huffman.Bad {
		d.stop(api.BadSymbol)
	}
	return symbol, how == huffman.Got
}

// literal reads a literal symbol, and does what it says.
func (d *Inflater) literal() bool {
	symbol, got := d.read(d.codes.literals)
	switch {
	case !got:
		return false
	case symbol < blockEnd:
		return d.give(byte(symbol))
	case symbol == blockEnd:
		return d.endBlock()
	case symbol-firstLength >= len(lengthLeast):
		return d.stop(api.BadSymbol)
	}
	d.symbol = symbol - firstLength
	return d.then(d.lengthMore)
}

// lengthMore takes the bits behind a length symbol.
func (d *Inflater) lengthMore() bool {
	more, got := d.in.Take(int(lengthBits[d.symbol]))
	if !got {
		return false
	}
	d.left = int(lengthLeast[d.symbol]) + int(more)
	return d.then(d.back)
}

// back reads a distance symbol.
func (d *Inflater) back() bool {
	symbol, got := d.read(d.codes.distances)
	if !got {
		return false
	}
	if symbol >= len(distanceLeast) {
		return d.stop(api.BadSymbol)
	}
	d.symbol = symbol
	return d.then(d.backMore)
}

// backMore takes the bits behind a distance symbol.
func (d *Inflater) backMore() bool {
	more, got := d.in.Take(int(distanceBits[d.symbol]))
	if !got {
		return false
	}
	d.distance = int(distanceLeast[d.symbol]) + int(more)
	// No distance is greater than the window, so that what was given and is not in it any more is not asked for.
	if d.distance > d.window.Len() {
		return d.stop(api.BadBack)
	}
	return d.then(d.copied)
}

// copied gives a match's next byte.
func (d *Inflater) copied() bool {
	if d.left == 0 {
		return d.then(d.literal)
	}
	d.left--
	b, _ := d.window.Back(d.distance)
	return d.give(b)
}
