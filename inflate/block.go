package inflate

import (
	"winkle/api"
	"winkle/huffman"
)

// Kinds of blocks.
const (
	stored = iota
	fixed
	dynamic
)

const (
	mostLiterals  = 286 // literal lengths of a dynamic block
	mostDistances = 30  // distance lengths of a dynamic block
	smallSymbols  = 19  // symbols of the code in which these lengths are written
	firstRun      = 16  // the first one of them that is no length
	storedSum     = 65535
	full          = 1 << api.MaxCode // the sum of full lengths
)

// order is that of the symbols whose lengths stand ahead of the others.
var order = [smallSymbols]uint8{16, 17, 18, 0, 8, 7, 9, 6, 10, 5, 11, 4, 12, 3, 13, 2, 14, 1, 15}

// The runs of lengths, from firstRun on: how long each one is at least, and how many bits say how much longer.
var (
	runLeast = [...]uint8{3, 3, 11}
	runBits  = [...]uint8{2, 3, 7}
)

// codes are those of a block's symbols.
type codes struct {
	literals, distances *huffman.Table
}

// plan is what a dynamic block has told of its codes so far.
type plan struct {
	literals, distances, smalls int // how many lengths there are of each kind

	have  int // how many of small's lengths, then of the row's, are there
	small [smallSymbols]int
	table *huffman.Table                    // of small's lengths
	row   [mostLiterals + mostDistances]int // the literal lengths, and the distance lengths behind them
}

// block begins a block.
func (d *Inflater) block() bool {
	head, got := d.in.Take(1 + 2)
	if !got {
		return false
	}
	d.last = head&1 == 1
	switch head >> 1 {
	case stored:
		d.in.Align()
		return d.then(d.storedLength)
	case fixed:
		d.codes = d.fixedCodes()
		return d.then(d.literal)
	case dynamic:
		return d.then(d.counts)
	}
	return d.stop(api.BadBlock)
}

// endBlock ends a block, and with the last one all.
func (d *Inflater) endBlock() bool {
	d.codes = codes{}
	if d.last {
		d.done = true
		return false
	}
	return d.then(d.block)
}

// storedLength takes both numbers of a stored block.
func (d *Inflater) storedLength() bool {
	both, got := d.in.Take(16 + 16)
	if !got {
		return false
	}
	length, other := both&0xffff, both>>16
	if length+other != storedSum {
		return d.stop(api.BadStored)
	}
	d.left = int(length)
	return d.then(d.storedByte)
}

// storedByte gives a stored block's next byte; behind the last one no bits are needed to end it.
func (d *Inflater) storedByte() bool {
	if d.left == 0 {
		return d.endBlock()
	}
	b, got := d.in.Take(8)
	if !got {
		return false
	}
	d.left--
	return d.give(byte(b))
}

// fixedCodes makes the codes of fixed blocks, if they have not been made yet.
func (d *Inflater) fixedCodes() codes {
	if d.fixed.literals != nil {
		return d.fixed
	}
	lengths := make([]int, 288)
	for symbol := range lengths {
		lengths[symbol] = fixedLength(symbol)
	}
	d.fixed.literals, _ = huffman.New(lengths)
	lengths = lengths[:32]
	for symbol := range lengths {
		lengths[symbol] = 5
	}
	d.fixed.distances, _ = huffman.New(lengths)
	return d.fixed
}

// fixedLength tells a literal symbol's length in fixed blocks.
func fixedLength(symbol int) int {
	switch {
	case symbol < 144:
		return 8
	case symbol < 256:
		return 9
	case symbol < 280:
		return 7
	}
	return 8
}

// counts takes all three numbers ahead of looking at them: a wrong one is known with the last one's bits.
func (d *Inflater) counts() bool {
	all, got := d.in.Take(5 + 5 + 4)
	if !got {
		return false
	}
	d.plan = plan{literals: 257 + int(all&31), distances: 1 + int(all>>5&31), smalls: 4 + int(all>>10)}
	if d.plan.literals > mostLiterals || d.plan.distances > mostDistances {
		return d.stop(api.BadCodes)
	}
	return d.then(d.smallLength)
}

// smallLength takes a length of a length, and with the last one makes their code.
func (d *Inflater) smallLength() bool {
	length, got := d.in.Take(3)
	if !got {
		return false
	}
	p := &d.plan
	p.small[order[p.have]] = int(length)
	p.have++
	if p.have < p.smalls {
		return true
	}
	// A table alone is not enough: there is one of a single code, too.
	if sum, _ := huffman.Kraft(p.small[:]); sum != full {
		return d.stop(api.BadCodes)
	}
	p.table, _ = huffman.New(p.small[:])
	p.have = 0
	return d.then(d.codeLength)
}

// codeLength takes a length of the row, or begins a run of them.
func (d *Inflater) codeLength() bool {
	p := &d.plan
	if p.have == p.literals+p.distances {
		return d.dynamicCodes()
	}
	symbol, got := d.read(p.table)
	switch {
	case !got:
		return false
	case symbol < firstRun:
		p.row[p.have] = symbol
		p.have++
		return true
	case symbol == firstRun && p.have == 0:
		return d.stop(api.BadCodes)
	}
	d.symbol = symbol
	return d.then(d.runOfLengths)
}

// runOfLengths takes how long a run is, and lays its lengths.
func (d *Inflater) runOfLengths() bool {
	run := d.symbol - firstRun
	more, got := d.in.Take(int(runBits[run]))
	if !got {
		return false
	}
	p := &d.plan
	many := int(runLeast[run]) + int(more)
	if p.have+many > p.literals+p.distances {
		return d.stop(api.BadCodes)
	}
	length := 0
	if d.symbol == firstRun {
		length = p.row[p.have-1]
	}
	for range many {
		p.row[p.have] = length
		p.have++
	}
	return d.then(d.codeLength)
}

// dynamicCodes makes the codes of the row's lengths.
func (d *Inflater) dynamicCodes() bool {
	p := &d.plan
	literals, e := huffman.New(p.row[:p.literals])
	distances, f := huffman.New(p.row[p.literals:p.have])
	if p.row[blockEnd] == 0 || e != api.OK || f != api.OK {
		return d.stop(api.BadCodes)
	}
	d.codes = codes{literals, distances}
	d.plan = plan{} // the codes are all that is kept of it
	return d.then(d.literal)
}
