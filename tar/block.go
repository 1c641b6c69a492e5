package tar

import (
	"bytes"

	"winkle/api"
	"winkle/number"
)

const blockLen = 512

// Where a header's fields are.
const (
	nameEnd    = 100
	sizeFrom   = 124
	sizeEnd    = 136
	kindAt     = 156
	magicFrom  = 257
	magicEnd   = 262
	prefixFrom = 345
	prefixEnd  = 500
)

const magic = "ustar" // without it there is no prefix

// Kinds of headers; those of no file, whose data says nothing either, are not among them.
const (
	oldFile     = 0
	plainFile   = '0'
	closeFile   = '7' // a file whose bytes lie side by side
	longLink    = 'K'
	longName    = 'L'
	globalExtra = 'g'
	extra       = 'x'
)

// What data is for.
const (
	forNothing = iota
	forFile
	forName
	forRecords
)

type block [blockLen]byte

// name tells the name that a header says itself.
func (b *block) name() string {
	name := text(b[:nameEnd])
	if string(b[magicFrom:magicEnd]) != magic {
		return name
	}
	if prefix := text(b[prefixFrom:prefixEnd]); prefix != "" {
		return prefix + "/" + name
	}
	return name
}

// isFile tells whether a header is a file's.
func (b *block) isFile() bool {
	kind := b[kindAt]
	return kind == plainFile || kind == oldFile || kind == closeFile
}

// text tells the bytes up to the first 0 of them.
func text(field []byte) string {
	ahead, _, _ := bytes.Cut(field, []byte{0})
	return string(ahead)
}

// header looks at the block in the place of a header, as all of it is there.
func (w *Walker) header() {
	if number.Zero(w.block[:]) {
		w.where = behindAll
		return
	}
	if !number.Right(w.block[:]) {
		w.why = api.BadSum
		return
	}
	size, ok := number.Field(w.block[sizeFrom:sizeEnd])
	if !ok {
		w.why = api.BadNumber
		return
	}
	switch w.block[kindAt] {
	case longName:
		w.keep(forName, size, api.MaxName+1)
	case extra:
		w.keep(forRecords, size, api.MaxExtra)
	case longLink, globalExtra:
		w.begin(forNothing, size)
	default:
		w.entry(size)
	}
}

// keep begins data that is to be kept, if it is no more than may be.
func (w *Walker) keep(use int, size, most uint64) {
	if size > most {
		w.why = api.BadName
		return
	}
	w.length = 0
	w.begin(use, size)
}

// entry begins what is no header of another one; what was to come is used up by it.
func (w *Walker) entry(size uint64) {
	said := w.coming
	w.coming = toCome{}
	if said.hasSize {
		size = said.size
	}
	if !w.block.isFile() {
		w.begin(forNothing, size)
		return
	}
	if !said.hasName {
		said.name = w.block.name()
	}
	w.event = api.Event{Kind: api.EventOpen, Node: api.KindFile, Text: said.name}
	w.begin(forFile, size)
}

// begin begins a header's data. Of no data the end is here, and a header comes next.
func (w *Walker) begin(use int, size uint64) {
	w.use, w.left = use, size
	if size == 0 {
		w.endData()
		return
	}
	w.where = inData
}

// data takes a byte of data.
func (w *Walker) data(b byte) {
	switch w.use {
	case forFile:
		w.event = api.Event{Kind: api.EventByte, Byte: b}
	case forName, forRecords:
		w.kept[w.length] = b
		w.length++
	}
	w.left--
	if w.left == 0 {
		w.where = behindData
		w.endData()
	}
}

// endData does what is to be done as all data is there.
func (w *Walker) endData() {
	switch w.use {
	case forFile:
		w.closing = true
	case forName:
		w.why = w.coming.setName(text(w.kept[:w.length]))
	case forRecords:
		w.why = w.coming.read(w.kept[:w.length])
	}
}
