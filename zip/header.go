package zip

import (
	"strings"

	"winkle/api"
)

const (
	magicLen   = 4
	entryMagic = "PK\x03\x04" // with it an entry begins
)

// overMagics are those with which the entries are over.
var overMagics = [...]string{"PK\x01\x02", "PK\x05\x06", "PK\x06\x06", "PK\x06\x07"}

const (
	recordHead = 4          // bytes of a record's id and length
	wideID     = 1          // the id of the record that says what there is no room for in the header
	wideBytes  = 8          // of each number that it says
	noRoom     = 0xffffffff // the header's number in the place of one that such a record says
)

// entry is what has been told of an entry, and what came of it.
type entry struct {
	flags, method uint64
	sum           uint64
	packed, size  uint64
	nameLen       uint64
	extraLeft     uint64 // bytes of the extra that no record has taken
	wide          bool
	name          [api.MaxName]byte

	taken  uint64 // bytes that stand behind the header
	given  uint64
	summed uint32 // the sum of what was given
}

// place goes on to the place of an entry.
func (w *Walker) place() {
	var begun [magicLen]byte
	taken := 0
	w.next = func(b byte) {
		begun[taken] = b
		taken++
		switch text := string(begun[:taken]); {
		case text == entryMagic:
			w.header()
		case !beginsMagic(text):
			w.why = api.BadMagic
		case taken == magicLen:
			w.over = true
			w.next = func(byte) {}
		}
	}
}

// beginsMagic tells whether what stands in the place of an entry may begin so.
func beginsMagic(text string) bool {
	for _, magic := range overMagics {
		if strings.HasPrefix(magic, text) {
			return true
		}
	}
	return strings.HasPrefix(entryMagic, text)
}

// header goes on to the numbers of an entry's header.
func (w *Walker) header() {
	w.entry = entry{}
	e := &w.entry
	w.gather(w.name,
		field{2, unused}, // the version
		field{2, into(&e.flags)},
		field{2, into(&e.method)},
		field{4, unused}, // the time
		field{4, into(&e.sum)},
		field{4, into(&e.packed)},
		field{4, into(&e.size)},
		field{2, into(&e.nameLen)},
		field{2, into(&e.extraLeft)},
	)
}

// name goes on to an entry's name, if neither it nor the extra is too long.
func (w *Walker) name() {
	e := &w.entry
	if e.nameLen > api.MaxName || e.extraLeft > api.MaxExtra {
		w.why = api.BadName
		return
	}
	at := 0
	w.take(e.nameLen, func(b byte) {
		e.name[at] = b
		at++
	}, w.record)
}

// record goes on to the next record of the extra; behind the last one to what stands behind the header.
func (w *Walker) record() {
	e := &w.entry
	if e.extraLeft < recordHead {
		w.pass(e.extraLeft, w.body)
		return
	}
	e.extraLeft -= recordHead
	var id, length uint64
	w.gather(func() {
		if length > e.extraLeft {
			w.pass(e.extraLeft, w.body)
			return
		}
		e.extraLeft -= length
		if id != wideID || e.wide {
			w.pass(length, w.record)
			return
		}
		e.wide = true
		w.wideSizes(length)
	}, field{2, into(&id)}, field{2, into(&length)})
}

// wideSizes takes those sizes that the header had no room for out of a record of so many bytes, and passes over its other ones.
func (w *Walker) wideSizes(length uint64) {
	e := &w.entry
	var fields []field
	for _, size := range []*uint64{&e.size, &e.packed} {
		if *size == noRoom && length >= wideBytes {
			fields = append(fields, field{wideBytes, into(size)})
			length -= wideBytes
		}
	}
	w.gather(func() { w.pass(length, w.record) }, fields...)
}
