package zip_test

import (
	"encoding/binary"
	"hash/crc32"
	"math"
	"slices"
	"testing"

	"winkle/api"
	"winkle/inflate"
	"winkle/zip"
)

// opened is the event of an entry that begins.
func opened(name string) api.Event {
	return api.Event{Kind: api.EventOpen, Node: api.KindFile, Text: name}
}

// given is the event of a byte.
func given(b byte) api.Event { return api.Event{Kind: api.EventByte, Byte: b} }

// closed is the event of an entry that ends.
var closed = api.Event{Kind: api.EventClose}

// entry is what is told of an entry.
type entry struct{ name, data string }

// answer is what bytes give as an archive.
type answer struct {
	events []api.Event
	at     []int // how many bytes were put in when each event is known
	used   int   // how many are put in till it is stopped, or all
	why    api.Reason
}

// with tells the events that are known with the n-th byte.
func (a answer) with(n int) []api.Event {
	from, _ := slices.BinarySearch(a.at, n)
	to, _ := slices.BinarySearch(a.at, n+1)
	return a.events[from:to]
}

// whyWith tells why it is stopped, behind the events that are known with the n-th byte.
func (a answer) whyWith(n int) api.Reason {
	if n == a.used && a.why != api.Cut {
		return a.why
	}
	return api.None
}

// within tells what Whole answers (P17.3).
func (a answer) within(most int) ([]entry, api.Reason) {
	var names []string
	var data [][]byte
	left, why := max(0, most), a.why
all:
	for _, e := range a.events {
		switch {
		case e.Kind == api.EventOpen:
			names, data = append(names, e.Text), append(data, nil)
		case e.Kind == api.EventByte && left == 0:
			why = api.TooMuch
			break all
		case e.Kind == api.EventByte:
			left--
			data[len(data)-1] = append(data[len(data)-1], e.Byte)
		}
	}
	return listed(names, data), why
}

// entries tells what Whole answers without a limit.
func (a answer) entries() []entry {
	list, _ := a.within(math.MaxInt)
	return list
}

// total tells how many bytes are given in all.
func (a answer) total() int {
	n := 0
	for _, e := range a.events {
		if e.Kind == api.EventByte {
			n++
		}
	}
	return n
}

// slow reads an archive by the chapter's words, with all of it in sight.
type slow struct {
	b      []byte
	at     int // how many bytes were read
	answer answer
}

// halt is what a slow one gives up by.
type halt struct{ why api.Reason }

// slowly tells what bytes give as an archive.
func slowly(b []byte) (told answer) {
	s := &slow{b: b}
	defer func() {
		h, ok := recover().(halt)
		if !ok {
			panic("the slow one fell")
		}
		told = s.answer
		told.used, told.why = s.at, h.why
	}()
	for s.another() {
		s.entry()
	}
	s.at = len(b)
	panic(halt{api.None})
}

func (s *slow) stopIf(wrong bool, why api.Reason) {
	if wrong {
		panic(halt{why})
	}
}

func (s *slow) byte() byte {
	s.stopIf(s.at == len(s.b), api.Cut)
	s.at++
	return s.b[s.at-1]
}

// bytes reads so many bytes.
func (s *slow) bytes(n int) []byte {
	if n > len(s.b)-s.at {
		s.at = len(s.b)
		panic(halt{api.Cut})
	}
	s.at += n
	return s.b[s.at-n : s.at]
}

func (s *slow) say(e api.Event) {
	s.answer.events = append(s.answer.events, e)
	s.answer.at = append(s.answer.at, s.at)
}

// another reads the four bytes in the place of an entry, and tells whether one begins.
func (s *slow) another() bool {
	s.stopIf(s.byte() != 0x50, api.BadMagic)
	s.stopIf(s.byte() != 0x4b, api.BadMagic)
	third := s.byte()
	s.stopIf(third != 1 && third != 3 && third != 5 && third != 6, api.BadMagic)
	switch fourth := s.byte(); {
	case third == 3 && fourth == 4:
		return true
	case third == 1 && fourth == 2, third == 5 && fourth == 6, third == 6 && (fourth == 6 || fourth == 7):
		return false
	}
	panic(halt{api.BadMagic})
}

// two and four are numbers of two bytes and of four, at a place in some bytes.
func two(b []byte, place int) int { return int(binary.LittleEndian.Uint16(b[place:])) }
func four(b []byte, place int) uint64 {
	return uint64(binary.LittleEndian.Uint32(b[place:]))
}

// head is what an entry's header says.
type head struct {
	flags, method int
	sum           uint32
	packed, size  uint64
	wide          bool
	name          string
}

// head reads an entry's header behind its four bytes.
func (s *slow) head() head {
	b := append(make([]byte, 4), s.bytes(26)...) // places are the header's own
	h := head{flags: two(b, 6), method: two(b, 8), sum: uint32(four(b, 14)), packed: four(b, 18), size: four(b, 22)}
	s.stopIf(two(b, 26) > 256 || two(b, 28) > 1024, api.BadName)
	h.name = string(s.bytes(two(b, 26)))
	h.widen(s.bytes(two(b, 28)))
	return h
}

// widen reads an extra.
func (h *head) widen(extra []byte) {
	for len(extra) >= 4 && 4+two(extra, 2) <= len(extra) {
		id, says := two(extra, 0), extra[4:4+two(extra, 2)]
		extra = extra[4+len(says):]
		if id != 1 {
			continue
		}
		h.wide = true
		for _, v := range []*uint64{&h.size, &h.packed} {
			if *v == 1<<32-1 && len(says) >= 8 {
				*v = binary.LittleEndian.Uint64(says)
				says = says[8:]
			}
		}
		return
	}
}

// entry reads an entry behind its four bytes.
func (s *slow) entry() {
	h := s.head()
	behind := h.flags/8%2 == 1
	switch {
	case h.flags%2 == 1 || h.method != 0 && h.method != 8:
		s.stopIf(behind, api.Lost)
		for range h.packed {
			s.byte()
		}
		return
	case h.method == 0:
		s.stopIf(behind, api.Lost)
		s.stopIf(h.packed != h.size, api.BadSize)
		s.say(opened(h.name))
		s.stored(h)
	case behind:
		s.say(opened(h.name))
		s.sizedBehind(h)
	default:
		s.say(opened(h.name))
		s.sizedAhead(h)
	}
	s.say(closed)
}

// stored reads bytes that are given as they stand.
func (s *slow) stored(h head) {
	first := s.at
	for range h.packed {
		s.say(given(s.byte()))
	}
	s.stopIf(crc32.ChecksumIEEE(s.b[first:s.at]) != h.sum, api.BadSum)
}

// sizedAhead reads what was deflated, its sizes being known.
func (s *slow) sizedAhead(h head) {
	out, read := s.inflated(h.packed)
	s.stopIf(read != h.packed, api.BadSize)
	s.stopIf(uint64(len(out)) != h.size, api.BadSize)
	s.stopIf(crc32.ChecksumIEEE(out) != h.sum, api.BadSum)
}

// sizedBehind reads what was deflated, its sum and its sizes behind it.
func (s *slow) sizedBehind(h head) {
	out, read := s.inflated(math.MaxUint64)
	sum := s.bytes(4)
	if string(sum) == "PK\x07\x08" {
		sum = s.bytes(4)
	}
	s.stopIf(binary.LittleEndian.Uint32(sum) != crc32.ChecksumIEEE(out), api.BadSum)
	if h.wide {
		b := s.bytes(16)
		s.stopIf(binary.LittleEndian.Uint64(b) != read || binary.LittleEndian.Uint64(b[8:]) != uint64(len(out)), api.BadSize)
		return
	}
	b := s.bytes(8)
	s.stopIf(four(b, 0) != read || four(b, 4) != uint64(len(out)), api.BadSize)
}

// inflated reads what was deflated, by chapter 9, of at most so many bytes; it tells how many were read, too.
func (s *slow) inflated(most uint64) ([]byte, uint64) {
	var out []byte
	d := inflate.New()
	read := uint64(0)
	for !d.Done() {
		s.stopIf(read == most, api.BadSize)
		d.Put(s.byte())
		read++
		for b, ok := d.Next(); ok; b, ok = d.Next() {
			out = append(out, b)
			s.say(given(b))
		}
		s.stopIf(d.Reason() != api.None, d.Reason())
	}
	return out, read
}

// short cuts bytes that are too many to be told.
func short(b []byte) []byte { return b[:min(len(b), 200)] }

// wantQuiet holds it that Next tells nothing, again and again, and what Reason tells.
func wantQuiet(t *testing.T, w *zip.Walker, why api.Reason) {
	t.Helper()
	for range 2 {
		if e, ok := w.Next(); e != (api.Event{}) || ok {
			t.Fatalf("Next = %v %t, not a zero event and false", e, ok)
		}
		if got := w.Reason(); got != why {
			t.Fatalf("Reason = %d, not %d", got, why)
		}
	}
}

// wantShut holds it that nothing may be put in.
func wantShut(t *testing.T, w *zip.Walker) {
	t.Helper()
	for _, b := range []byte{0, 'P', 'K', 8, 0xff} {
		if w.Put(b) {
			t.Fatalf("Put(%d) = true", b)
		}
	}
}

// wantTold holds it that Next tells these events and no more, that Put and End do nothing ahead of each, and that Reason is None till then.
func wantTold(t *testing.T, w *zip.Walker, events []api.Event, why api.Reason) {
	t.Helper()
	for i, v := range events {
		wantShut(t, w)
		w.End()
		if got := w.Reason(); got != api.None {
			t.Fatalf("Reason = %d ahead of event %d", got, i)
		}
		if e, ok := w.Next(); e != v || !ok {
			t.Fatalf("Next %d = %v %t, not %v true", i, e, ok, v)
		}
	}
	wantQuiet(t, w, why)
}

// wantOver holds it that nothing changes any more.
func wantOver(t *testing.T, w *zip.Walker, why api.Reason) {
	t.Helper()
	for range 2 {
		wantQuiet(t, w, why)
		wantShut(t, w)
		w.End()
	}
	wantQuiet(t, w, why)
}

// follow puts bytes into a walker that is as behind New, ends it, and holds all that is told against the slow one's answer.
func follow(t *testing.T, w *zip.Walker, b []byte, a answer) {
	t.Helper()
	wantQuiet(t, w, api.None)
	for i := range a.used {
		if !w.Put(b[i]) {
			t.Fatalf("%x: Put of byte %d = false", short(b), i)
		}
		wantTold(t, w, a.with(i+1), a.whyWith(i+1))
	}
	if a.used < len(b) {
		wantOver(t, w, a.why)
	}
	w.End()
	wantOver(t, w, a.why)
}

// feed puts bytes in, lets all events go by, and tells how many bytes were taken.
func feed(w *zip.Walker, b []byte) int {
	for i, v := range b {
		if !w.Put(v) {
			return i
		}
		for _, ok := w.Next(); ok; _, ok = w.Next() {
		}
	}
	return len(b)
}

// listed tells names and bytes as entries.
func listed(names []string, data [][]byte) []entry {
	var list []entry
	for i, name := range names {
		list = append(list, entry{name, string(data[i])})
	}
	return list
}

// wantWhole holds Whole against what is wanted.
func wantWhole(t *testing.T, b []byte, most int, why api.Reason, entries ...entry) {
	t.Helper()
	kept := slices.Clone(b)
	names, data, got := zip.Whole(b, most)
	if len(names) != len(data) {
		t.Fatalf("%d names and %d lists of bytes", len(names), len(data))
	}
	if list := listed(names, data); !slices.Equal(list, entries) || got != why {
		t.Fatalf("Whole(%x, %d) = %.200q %d, not %.200q %d", short(b), most, list, got, entries, why)
	}
	if !slices.Equal(b, kept) {
		t.Fatalf("Whole changed %x to %x", short(kept), short(b))
	}
}

// hold holds all that is told of bytes against the slow one's answer.
func hold(t *testing.T, b []byte) answer {
	t.Helper()
	a := slowly(b)
	follow(t, zip.New(), b, a)
	wantWhole(t, b, math.MaxInt, a.why, a.entries()...)
	return a
}

// want holds all that is told of bytes, by the slow one, too, against what is wanted: how many bytes are put in till it is stopped, why, and the entries.
func want(t *testing.T, b []byte, used int, why api.Reason, entries ...entry) answer {
	t.Helper()
	a := hold(t, b)
	if a.used != used || a.why != why || !slices.Equal(a.entries(), entries) {
		t.Fatalf("%x: the slow one tells %d %d %.200q, not %d %d %.200q", short(b), a.used, a.why, a.entries(), used, why, entries)
	}
	return a
}

// wantAll is want of bytes that are entries, with what ends them behind.
func wantAll(t *testing.T, b []byte, entries ...entry) answer {
	t.Helper()
	b = archive(b, over)
	return want(t, b, len(b), api.None, entries...)
}
