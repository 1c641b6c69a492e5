package gzip_test

import (
	"hash/crc32"
	"math"
	"slices"
	"strings"
	"testing"

	"winkle/api"
	"winkle/gzip"
	"winkle/inflate"
)

// opened is the event of a member that begins.
func opened(name string) api.Event {
	return api.Event{Kind: api.EventOpen, Node: api.KindFile, Text: name}
}

// given is the event of a byte.
func given(b byte) api.Event { return api.Event{Kind: api.EventByte, Byte: b} }

// closed is the event of a member that ends.
var closed = api.Event{Kind: api.EventClose}

// answer is what bytes give as a file.
type answer struct {
	events []api.Event
	at     []int // how many bytes were put in when each event is known
	used   int   // how many are put in till it is stopped, or all
	why    api.Reason
}

// with tells the events that are known with the n-th byte.
func (a answer) with(n int) []api.Event {
	from, _ := slices.BinarySearch(a.at, n)
	to, _ := slices.BinarySearch(a.at, n+1)
	return a.events[from:to]
}

// whyWith tells why it is stopped, behind the events that are known with the n-th byte.
func (a answer) whyWith(n int) api.Reason {
	if n == a.used && a.why != api.Cut {
		return a.why
	}
	return api.None
}

// within tells what Whole answers (P15.3).
func (a answer) within(most int) ([]string, api.Reason) {
	var members [][]byte
	left := max(0, most)
	for _, e := range a.events {
		switch {
		case e.Kind == api.EventOpen:
			members = append(members, nil)
		case e.Kind == api.EventByte && left == 0:
			return texts(members), api.TooMuch
		case e.Kind == api.EventByte:
			left--
			last := len(members) - 1
			members[last] = append(members[last], e.Byte)
		}
	}
	return texts(members), a.why
}

// total tells how many bytes are given in all.
func (a answer) total() int {
	n := 0
	for _, e := range a.events {
		if e.Kind == api.EventByte {
			n++
		}
	}
	return n
}

// slow reads a file by the chapter's words, with all of it in sight.
type slow struct {
	b      []byte
	at     int // how many bytes were read
	answer answer
}

// halt is what a slow one gives up by.
type halt struct{ why api.Reason }

// slowly tells what bytes give as a file.
func slowly(b []byte) (told answer) {
	s := &slow{b: b}
	defer func() {
		h, ok := recover().(halt)
		if !ok {
			panic("the slow one fell")
		}
		told = s.answer
		told.used, told.why = s.at, h.why
	}()
	s.stopIf(s.byte() != 0x1f, api.BadMagic)
	for {
		s.member()
		if s.at == len(b) {
			panic(halt{api.None})
		}
		if s.byte() != 0x1f {
			s.at--
			s.tail()
		}
	}
}

// tail reads what stands behind all members.
func (s *slow) tail() {
	for s.at < len(s.b) {
		s.stopIf(s.byte() != 0, api.BadTail)
	}
	panic(halt{api.None})
}

func (s *slow) stopIf(wrong bool, why api.Reason) {
	if wrong {
		panic(halt{why})
	}
}

func (s *slow) byte() byte {
	s.stopIf(s.at == len(s.b), api.Cut)
	s.at++
	return s.b[s.at-1]
}

func (s *slow) number(bytes int) int {
	v := 0
	for i := range bytes {
		v += int(s.byte()) << (8 * i)
	}
	return v
}

// text reads a text up to its 0.
func (s *slow) text() string {
	first := s.at
	for s.byte() != 0 {
		s.stopIf(s.at-first > 256, api.BadName)
	}
	return string(s.b[first : s.at-1])
}

func (s *slow) say(e api.Event) {
	s.answer.events = append(s.answer.events, e)
	s.answer.at = append(s.answer.at, s.at)
}

// member reads a member of which the first byte was read.
func (s *slow) member() {
	first := s.at - 1
	s.stopIf(s.byte() != 0x8b, api.BadMagic)
	s.stopIf(s.byte() != 8, api.BadMethod)
	flags := s.byte()
	s.stopIf(flags >= 32, api.BadFlags)
	s.number(6)
	if flags>>2&1 == 1 {
		length := s.number(2)
		s.stopIf(length > 1024, api.BadName)
		s.number(length)
	}
	name := ""
	if flags>>3&1 == 1 {
		name = s.text()
	}
	if flags>>4&1 == 1 {
		s.text()
	}
	if flags>>1&1 == 1 {
		sum := int(crc32.ChecksumIEEE(s.b[first:s.at]) % 65536)
		s.stopIf(s.number(2) != sum, api.BadHead)
	}
	s.say(opened(name))
	out := s.inflated()
	s.stopIf(s.number(4) != int(crc32.ChecksumIEEE(out)), api.BadSum)
	s.stopIf(s.number(4) != len(out), api.BadSize)
	s.say(closed)
}

// inflated reads what was deflated, by chapter 9.
func (s *slow) inflated() []byte {
	var out []byte
	d := inflate.New()
	for !d.Done() {
		d.Put(s.byte())
		for b, ok := d.Next(); ok; b, ok = d.Next() {
			out = append(out, b)
			s.say(given(b))
		}
		s.stopIf(d.Reason() != api.None, d.Reason())
	}
	return out
}

// short cuts bytes that are too many to be told.
func short(b []byte) []byte { return b[:min(len(b), 200)] }

// wantQuiet holds it that Next tells nothing, again and again, and what Reason tells.
func wantQuiet(t *testing.T, w *gzip.Walker, why api.Reason) {
	t.Helper()
	for range 2 {
		if e, ok := w.Next(); e != (api.Event{}) || ok {
			t.Fatalf("Next = %v %t, not a zero event and false", e, ok)
		}
		if got := w.Reason(); got != why {
			t.Fatalf("Reason = %d, not %d", got, why)
		}
	}
}

// wantShut holds it that nothing may be put in.
func wantShut(t *testing.T, w *gzip.Walker) {
	t.Helper()
	for _, b := range []byte{0, 0x1f, 0x8b, 8, 0xff} {
		if w.Put(b) {
			t.Fatalf("Put(%d) = true", b)
		}
	}
}

// wantTold holds it that Next tells these events and no more, that Put and End do nothing ahead of each, and that Reason is None till then.
func wantTold(t *testing.T, w *gzip.Walker, events []api.Event, why api.Reason) {
	t.Helper()
	for i, v := range events {
		wantShut(t, w)
		w.End()
		if got := w.Reason(); got != api.None {
			t.Fatalf("Reason = %d ahead of event %d", got, i)
		}
		if e, ok := w.Next(); e != v || !ok {
			t.Fatalf("Next %d = %v %t, not %v true", i, e, ok, v)
		}
	}
	wantQuiet(t, w, why)
}

// wantOver holds it that nothing changes any more.
func wantOver(t *testing.T, w *gzip.Walker, why api.Reason) {
	t.Helper()
	for range 2 {
		wantQuiet(t, w, why)
		wantShut(t, w)
		w.End()
	}
	wantQuiet(t, w, why)
}

// follow puts bytes into a walker that is as behind New, ends it, and holds all that is told against the slow one's answer.
func follow(t *testing.T, w *gzip.Walker, b []byte, a answer) {
	t.Helper()
	wantQuiet(t, w, api.None)
	for i := range a.used {
		if !w.Put(b[i]) {
			t.Fatalf("%x: Put of byte %d = false", short(b), i)
		}
		wantTold(t, w, a.with(i+1), a.whyWith(i+1))
	}
	if a.used < len(b) {
		wantOver(t, w, a.why)
	}
	w.End()
	wantOver(t, w, a.why)
}

// feed puts bytes in, lets all events go by, and tells how many bytes were taken.
func feed(w *gzip.Walker, b []byte) int {
	for i, v := range b {
		if !w.Put(v) {
			return i
		}
		for _, ok := w.Next(); ok; _, ok = w.Next() {
		}
	}
	return len(b)
}

// texts tells lists of bytes as texts.
func texts(list [][]byte) []string {
	var out []string
	for _, p := range list {
		out = append(out, string(p))
	}
	return out
}

// wantWhole holds Whole against what is wanted.
func wantWhole(t *testing.T, b []byte, most int, members []string, why api.Reason) {
	t.Helper()
	kept := slices.Clone(b)
	got, w := gzip.Whole(b, most)
	if !slices.Equal(texts(got), members) || w != why {
		t.Fatalf("Whole(%x, %d) = %x %d, not %x %d", short(b), most, short([]byte(strings.Join(texts(got), "|"))), w, short([]byte(strings.Join(members, "|"))), why)
	}
	if !slices.Equal(b, kept) {
		t.Fatalf("Whole changed %x to %x", short(kept), short(b))
	}
}

// hold holds all that is told of bytes against the slow one's answer.
func hold(t *testing.T, b []byte) answer {
	t.Helper()
	a := slowly(b)
	follow(t, gzip.New(), b, a)
	members, why := a.within(math.MaxInt)
	wantWhole(t, b, math.MaxInt, members, why)
	return a
}

// want holds all that is told of bytes, by the slow one, too, against what is wanted: how many bytes are put in till it is stopped, why, and what the members give.
func want(t *testing.T, b []byte, used int, why api.Reason, members ...string) answer {
	t.Helper()
	a := hold(t, b)
	if got, _ := a.within(math.MaxInt); a.used != used || a.why != why || !slices.Equal(got, members) {
		t.Fatalf("%x: the slow one tells %d %d %q, not %d %d %q", short(b), a.used, a.why, got, used, why, members)
	}
	return a
}
