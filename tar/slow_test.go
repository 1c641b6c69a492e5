package tar_test

import (
	"math/big"
	"regexp"
	"slices"
	"strconv"
	"strings"
	"testing"

	"winkle/api"
	"winkle/number"
	"winkle/tar"
)

// opened is the event of a file that begins.
func opened(name string) api.Event {
	return api.Event{Kind: api.EventOpen, Node: api.KindFile, Text: name}
}

// given is the event of a byte.
func given(b byte) api.Event { return api.Event{Kind: api.EventByte, Byte: b} }

// closed is the event of a file that ends.
var closed = api.Event{Kind: api.EventClose}

// entry is a file of an archive.
type entry struct{ name, data string }

// answer is what bytes are as an archive.
type answer struct {
	events []api.Event
	at     []int // how many bytes were put in when each event is known
	used   int   // how many are put in till it is stopped, or all
	why    api.Reason
}

// with tells the events that are known with the n-th byte.
func (a answer) with(n int) []api.Event {
	from, _ := slices.BinarySearch(a.at, n)
	to, _ := slices.BinarySearch(a.at, n+1)
	return a.events[from:to]
}

// whyWith tells why it is stopped with the n-th byte.
func (a answer) whyWith(n int) api.Reason {
	if n == a.used && a.why != api.Cut {
		return a.why
	}
	return api.None
}

// entries tells the files of which something was told.
func (a answer) entries() []entry {
	var list []entry
	for _, e := range a.events {
		switch e.Kind {
		case api.EventOpen:
			list = append(list, entry{name: e.Text})
		case api.EventByte:
			list[len(list)-1].data += string([]byte{e.Byte})
		}
	}
	return list
}

// slow reads an archive by the chapter's words, with all of it in sight.
type slow struct {
	b      []byte
	at     int // how many bytes were read
	name   []string
	size   []uint64 // what is to come, or none
	answer answer
}

// halt is what a slow one gives up by.
type halt struct{ why api.Reason }

// slowly tells what bytes are as an archive.
func slowly(b []byte) (told answer) {
	s := &slow{b: b}
	defer func() {
		h, ok := recover().(halt)
		if !ok {
			panic("the slow one fell")
		}
		told = s.answer
		told.used, told.why = s.at, h.why
	}()
	for s.at < len(b) {
		s.header(s.take(512, false))
		s.take(uint64(-s.at&511), false)
	}
	panic(halt{api.None})
}

func (s *slow) stopIf(wrong bool, why api.Reason) {
	if wrong {
		panic(halt{why})
	}
}

func (s *slow) say(e api.Event) {
	s.answer.events = append(s.answer.events, e)
	s.answer.at = append(s.answer.at, s.at)
}

// take reads so many bytes, and gives each of them, if they are a file's.
func (s *slow) take(n uint64, give bool) []byte {
	first := s.at
	for range min(n, uint64(len(s.b)-first)) {
		s.at++
		if give {
			s.say(given(s.b[s.at-1]))
		}
	}
	s.stopIf(uint64(s.at-first) < n, api.Cut)
	return s.b[first:s.at]
}

// header reads what stands behind a block in the place of a header.
func (s *slow) header(block []byte) {
	if strings.Trim(string(block), "\x00") == "" {
		s.at = len(s.b)
		panic(halt{api.None})
	}
	s.stopIf(!number.Right(block), api.BadSum)
	size, ok := number.Field(block[124 : 135+1])
	s.stopIf(!ok, api.BadNumber)
	switch kind := block[156]; kind {
	case 'L':
		s.stopIf(size > 257, api.BadName)
		s.name = []string{slowText(s.take(size, false))}
		s.stopIf(len(s.name[0]) > 256, api.BadName)
	case 'x':
		s.stopIf(size > 1024, api.BadName)
		s.records(string(s.take(size, false)))
	case 'K', 'g':
		s.take(size, false)
	default:
		if s.size != nil {
			size = s.size[0]
		}
		name := s.fileName(block)
		s.name, s.size = nil, nil
		file := strings.IndexByte("0\x007", kind) >= 0
		if file {
			s.say(opened(name))
		}
		s.take(size, file)
		if file {
			s.say(closed)
		}
	}
}

func (s *slow) fileName(block []byte) string {
	name, prefix := slowText(block[0:99+1]), slowText(block[345:499+1])
	switch {
	case s.name != nil:
		return s.name[0]
	case string(block[257:261+1]) == "ustar" && prefix != "":
		return prefix + "/" + name
	}
	return name
}

func slowText(b []byte) string { return strings.SplitN(string(b), "\x00", 2)[0] }

var (
	recordLength = regexp.MustCompile(`^[0-9]{1,4} `)
	recordForm   = regexp.MustCompile(`(?s)^[0-9]{1,4} ([^=]*)=(.*)\n$`)
	numberForm   = regexp.MustCompile(`^[0-9]+$`)
)

// records reads records, one behind the other.
func (s *slow) records(rest string) {
	for rest != "" {
		length, err := strconv.Atoi(strings.TrimSuffix(recordLength.FindString(rest), " "))
		s.stopIf(err != nil || length > len(rest), api.BadRecord)
		form := recordForm.FindStringSubmatch(rest[:length])
		s.stopIf(form == nil, api.BadRecord)
		rest = rest[length:]
		switch form[1] {
		case "path":
			s.stopIf(len(form[2]) > 256, api.BadName)
			s.name = []string{form[2]}
		case "size":
			s.stopIf(!numberForm.MatchString(form[2]), api.BadNumber)
			v, _ := new(big.Int).SetString(form[2], 10)
			s.stopIf(v.BitLen() > 63, api.BadNumber)
			s.size = []uint64{v.Uint64()}
		}
	}
}

// short cuts bytes that are too many to be told.
func short(b []byte) []byte { return b[:min(len(b), 600)] }

// wantQuiet holds it that Next tells nothing, again and again, and what Reason tells.
func wantQuiet(t *testing.T, w *tar.Walker, why api.Reason) {
	t.Helper()
	for range 2 {
		if e, ok := w.Next(); e != (api.Event{}) || ok {
			t.Fatalf("Next = %v %t, not a zero event and false", e, ok)
		}
		if got := w.Reason(); got != why {
			t.Fatalf("Reason = %d, not %d", got, why)
		}
	}
}

// wantShut holds it that nothing may be put in.
func wantShut(t *testing.T, w *tar.Walker) {
	t.Helper()
	for _, b := range []byte{0, '0', 'a', 0xff} {
		if w.Put(b) {
			t.Fatalf("Put(%d) = true", b)
		}
	}
}

// wantTold holds it that Next tells these events and no more, that Put and End do nothing ahead of each, and that Reason is None till then.
func wantTold(t *testing.T, w *tar.Walker, events []api.Event, why api.Reason) {
	t.Helper()
	for i, v := range events {
		wantShut(t, w)
		w.End()
		if got := w.Reason(); got != api.None {
			t.Fatalf("Reason = %d ahead of event %d", got, i)
		}
		if e, ok := w.Next(); e != v || !ok {
			t.Fatalf("Next %d = %v %t, not %v true", i, e, ok, v)
		}
	}
	wantQuiet(t, w, why)
}

// wantOver holds it that nothing changes any more.
func wantOver(t *testing.T, w *tar.Walker, why api.Reason) {
	t.Helper()
	for range 2 {
		wantQuiet(t, w, why)
		wantShut(t, w)
		w.End()
	}
	wantQuiet(t, w, why)
}

// follow puts bytes into a walker that is as behind New, ends it, and holds all that is told against the slow one's answer.
func follow(t *testing.T, w *tar.Walker, b []byte, a answer) {
	t.Helper()
	wantQuiet(t, w, api.None)
	for i := range a.used {
		if !w.Put(b[i]) {
			t.Fatalf("%q: Put of byte %d = false", short(b), i)
		}
		wantTold(t, w, a.with(i+1), a.whyWith(i+1))
	}
	if a.used < len(b) {
		wantOver(t, w, a.why)
	}
	w.End()
	wantOver(t, w, a.why)
}

// feed puts bytes in, lets all events go by, and tells how many bytes were taken.
func feed(w *tar.Walker, b []byte) int {
	for i, v := range b {
		if !w.Put(v) {
			return i
		}
		for _, ok := w.Next(); ok; _, ok = w.Next() {
		}
	}
	return len(b)
}

// wantWhole holds Whole against what is wanted.
func wantWhole(t *testing.T, b []byte, why api.Reason, entries ...entry) {
	t.Helper()
	kept := slices.Clone(b)
	names, data, got := tar.Whole(b)
	if len(names) != len(data) {
		t.Fatalf("%q: %d names and %d lists of bytes", short(b), len(names), len(data))
	}
	var list []entry
	for i, name := range names {
		list = append(list, entry{name, string(data[i])})
	}
	if !slices.Equal(list, entries) || got != why {
		t.Fatalf("Whole(%q) = %q %d, not %q %d", short(b), list, got, entries, why)
	}
	if !slices.Equal(b, kept) {
		t.Fatalf("Whole changed %q to %q", short(kept), short(b))
	}
}

// hold holds all that is told of bytes against the slow one's answer.
func hold(t *testing.T, b []byte) answer {
	t.Helper()
	a := slowly(b)
	follow(t, tar.New(), b, a)
	wantWhole(t, b, a.why, a.entries()...)
	return a
}

// want holds all that is told of bytes, by the slow one, too, against what is wanted: how many bytes are put in till it is stopped, why, and the files.
func want(t *testing.T, b []byte, used int, why api.Reason, entries ...entry) answer {
	t.Helper()
	a := hold(t, b)
	if a.used != used || a.why != why || !slices.Equal(a.entries(), entries) {
		t.Fatalf("%q: the slow one tells %d %d %q, not %d %d %q", short(b), a.used, a.why, a.entries(), used, why, entries)
	}
	return a
}

// wantAll is want of bytes that are an archive.
func wantAll(t *testing.T, b []byte, entries ...entry) answer {
	t.Helper()
	return want(t, b, len(b), api.None, entries...)
}
