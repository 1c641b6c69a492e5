package zip

import (
	"winkle/api"
	"winkle/crc"
)

// Methods.
const (
	stored   = 0
	deflated = 8
)

// Flags.
const (
	encrypted = 1
	behind    = 8 // the sum and the sizes stand behind the data
)

const mark = 0x08074b50 // may stand ahead of the sum behind the data

// sizesBehind tells whether the header does not say where the entry ends.
func (e *entry) sizesBehind() bool { return e.flags&behind != 0 }

// unread tells whether an entry is such as is passed over.
func (e *entry) unread() bool {
	return e.flags&encrypted != 0 || e.method != stored && e.method != deflated
}

// body goes on to what stands behind an entry's header.
func (w *Walker) body() {
	e := &w.entry
	switch {
	case e.sizesBehind() && (e.unread() || e.method == stored):
		w.why = api.Lost
	case e.unread():
		w.pass(e.packed, w.place)
	case e.method == stored && e.packed != e.size:
		w.why = api.BadSize
	default:
		w.event = api.Event{Kind: api.EventOpen, Node: api.KindFile, Text: string(e.name[:e.nameLen])}
		w.told = w.begin
	}
}

// begin goes on to an entry's data; of no bytes what stands behind it is asked for at once.
func (w *Walker) begin() {
	if w.entry.method == stored {
		w.next, w.told = w.storedByte, w.storedEnd
	} else {
		w.data.Reset()
		w.next, w.told = w.deflatedByte, w.ask
	}
	w.told()
}

// storedByte takes a byte that is given as it stands.
func (w *Walker) storedByte(b byte) {
	w.entry.taken++
	w.give(b)
}

// storedEnd looks whether that was the last one.
func (w *Walker) storedEnd() {
	if w.entry.taken == w.entry.packed {
		w.end()
	}
}

// deflatedByte takes a byte that was deflated.
func (w *Walker) deflatedByte(b byte) {
	w.entry.taken++
	w.data.Put(b)
	w.ask()
}

// ask gives the next byte that data knows; where there is none, it looks whether data goes on.
func (w *Walker) ask() {
	e := &w.entry
	b, ok := w.data.Next()
	switch {
	case ok:
		w.give(b)
	case w.data.Reason() != api.None:
		w.why = w.data.Reason()
	case w.data.Done() && e.sizesBehind():
		w.sumBehind()
	case w.data.Done():
		w.end()
	case !e.sizesBehind() && e.taken == e.packed:
		w.why = api.BadSize
	}
}

// give makes an event of a byte.
func (w *Walker) give(b byte) {
	w.entry.given++
	w.entry.summed = crc.Step(w.entry.summed, b)
	w.event = api.Event{Kind: api.EventByte, Byte: b}
}

// sumBehind goes on to the sum behind the data, ahead of which a mark may stand.
func (w *Walker) sumBehind() {
	sum := field{4, into(&w.entry.sum)}
	w.gather(func() {
		if w.entry.sum == mark {
			w.gather(w.bothBehind, sum)
			return
		}
		w.bothBehind()
	}, sum)
}

// bothBehind looks at that sum, and goes on to the sizes behind it.
func (w *Walker) bothBehind() {
	e := &w.entry
	if e.sum != uint64(e.summed) {
		w.why = api.BadSum
		return
	}
	bytes := 4
	if e.wide {
		bytes = wideBytes
	}
	w.gather(w.end, field{bytes, into(&e.packed)}, field{bytes, into(&e.size)})
}

// end ends an entry of which all has been told, if that is what came.
func (w *Walker) end() {
	e := &w.entry
	switch {
	case e.taken != e.packed || e.given != e.size:
		w.why = api.BadSize
	case e.sum != uint64(e.summed):
		w.why = api.BadSum
	default:
		w.event = api.Event{Kind: api.EventClose}
		w.told = w.place
	}
}
