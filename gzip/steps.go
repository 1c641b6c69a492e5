package gzip

import (
	"winkle/api"
	"winkle/crc"
)

const (
	firstMagic  = 0x1f
	secondMagic = 0x8b
	deflate     = 8 // the only method
	others      = 6 // how many bytes behind the flags may be anything
)

// Flags.
const (
	hasSum     = 2
	hasExtra   = 4
	hasName    = 8
	hasComment = 16
	unknown    = 32 | 64 | 128
)

// then says which step comes next, and how many bytes may come of what it takes.
func (w *Walker) then(step func(b byte), left int) {
	w.next, w.left = step, left
}

// count lays a byte of the header into its sum.
func (w *Walker) count(b byte) { w.sum = crc.Step(w.sum, b) }

// gather takes a byte of a number, and tells whether it was the last one. It comes in from above, so that of two bytes the number is the upper half, whatever was there.
func (w *Walker) gather(b byte) bool {
	w.number = w.number>>8 | uint32(b)<<24
	w.left--
	return w.left == 0
}

// half tells the number of the last two bytes that were gathered.
func (w *Walker) half() uint32 { return w.number >> 16 }

// first takes the first byte of all.
func (w *Walker) first(b byte) {
	if b != firstMagic {
		w.why = api.BadMagic
		return
	}
	w.begin(b)
}

// begin begins a member with its first byte.
func (w *Walker) begin(b byte) {
	w.whole = false
	w.sum = 0
	w.count(b)
	w.next = w.second
}

// second takes a member's second byte.
func (w *Walker) second(b byte) {
	if b != secondMagic {
		w.why = api.BadMagic
		return
	}
	w.count(b)
	w.next = w.method
}

// method takes the method.
func (w *Walker) method(b byte) {
	if b != deflate {
		w.why = api.BadMethod
		return
	}
	w.count(b)
	w.next = w.setFlags
}

// setFlags takes the flags.
func (w *Walker) setFlags(b byte) {
	if b&unknown != 0 {
		w.why = api.BadFlags
		return
	}
	w.count(b)
	w.flags = b
	w.then(w.anything, others)
}

// anything takes bytes that say nothing.
func (w *Walker) anything(b byte) {
	w.count(b)
	w.left--
	if w.left == 0 {
		w.field()
	}
}

// field goes on to the first field that the flags still ask for; behind the last one the header is over.
func (w *Walker) field() {
	switch {
	case w.asked(hasExtra):
		w.then(w.extraLength, 2)
	case w.asked(hasName):
		w.then(w.nameByte, api.MaxName)
	case w.asked(hasComment):
		w.then(w.text, api.MaxName)
	case w.asked(hasSum):
		w.then(w.headSum, 2)
	default:
		w.openMember()
	}
}

// asked tells whether a flag is set, and takes it away, as its field comes once.
func (w *Walker) asked(flag byte) bool {
	set := w.flags&flag != 0
	w.flags &^= flag
	return set
}

// extraLength takes how long the extra field is.
func (w *Walker) extraLength(b byte) {
	w.count(b)
	if !w.gather(b) {
		return
	}
	switch length := int(w.half()); {
	case length > api.MaxExtra:
		w.why = api.BadName
	case length == 0:
		w.field()
	default:
		w.then(w.anything, length)
	}
}

// nameByte takes the name, and keeps it.
func (w *Walker) nameByte(b byte) {
	if b != 0 && w.left > 0 {
		w.name = append(w.name, b)
	}
	w.text(b)
}

// text takes bytes up to a 0.
func (w *Walker) text(b byte) {
	w.count(b)
	switch {
	case b == 0:
		w.field()
	case w.left == 0:
		w.why = api.BadName
	default:
		w.left--
	}
}

// headSum takes the header's sum, which is not of its own bytes.
func (w *Walker) headSum(b byte) {
	if !w.gather(b) {
		return
	}
	if w.half() != w.sum&0xffff {
		w.why = api.BadHead
		return
	}
	w.openMember()
}

// openMember tells that the header is over.
func (w *Walker) openMember() {
	w.event = api.Event{Kind: api.EventOpen, Node: api.KindFile, Text: string(w.name)}
	w.name = w.name[:0]
	w.data.Reset()
	w.sum, w.given = 0, 0
	w.next = w.deflated
}

// deflated takes what was deflated.
func (w *Walker) deflated(b byte) {
	w.data.Put(b)
	w.ask()
}

// dataSum takes the sum of what was given.
func (w *Walker) dataSum(b byte) {
	if !w.gather(b) {
		return
	}
	if w.number != w.sum {
		w.why = api.BadSum
		return
	}
	w.then(w.dataSize, 4)
}

// dataSize takes how many bytes were given, and ends the member.
func (w *Walker) dataSize(b byte) {
	if !w.gather(b) {
		return
	}
	if w.number != w.given {
		w.why = api.BadSize
		return
	}
	w.event = api.Event{Kind: api.EventClose}
	w.whole = true
	w.next = w.behind
}

// behind takes the byte behind a member.
func (w *Walker) behind(b byte) {
	if b == firstMagic {
		w.begin(b)
		return
	}
	w.nought(b)
	w.next = w.nought
}

// nought takes a byte behind which no member comes any more.
func (w *Walker) nought(b byte) {
	if b != 0 {
		w.why = api.BadTail
	}
}
