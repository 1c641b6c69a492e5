package parts_test

import (
	"regexp"
	"slices"
	"strings"
	"testing"

	"winkle/api"
	"winkle/parts"
)

// The events that are not of a byte.
var (
	opened = api.Event{Kind: api.EventOpen, Node: api.KindMail}
	closed = api.Event{Kind: api.EventClose}
)

// answer is what bytes say as a body.
type answer struct {
	events []api.Event
	known  []int // the place of the byte with which each event is known; as many as there are bytes: at the end
	parts  []string
	why    api.Reason
}

// say lays an event behind the others.
func (a *answer) say(e api.Event, known int) {
	a.events, a.known = append(a.events, e), append(a.known, known)
}

// with tells the events that are known with the byte at a place.
func (a answer) with(place int) []api.Event {
	var out []api.Event
	for i, v := range a.known {
		if v == place {
			out = append(out, a.events[i])
		}
	}
	return out
}

// border knows a boundary's delimiters by patterns made of the chapter's words.
type border struct {
	boundary string
	line     *regexp.Regexp // a line that is a delimiter
	bare     *regexp.Regexp // a delimiter with its end
	behind   *regexp.Regexp // a line's end and a delimiter with its end
	rests    []string       // one of them makes a whole delimiter of each of its beginnings
	asked    map[string]int // what begins was asked, and 1 if it was so
}

// borders makes what knows a boundary's delimiters.
func borders(boundary string) *border {
	line := "--" + regexp.QuoteMeta(boundary) + "(--)?[\t ]{0,16}"
	k := &border{boundary: boundary, asked: map[string]int{}}
	k.line = regexp.MustCompile(`\A` + line + `\z`)
	k.bare = regexp.MustCompile(`\A` + line + `\r?\n\z`)
	k.behind = regexp.MustCompile(`\A\r?\n` + line + `\r?\n\z`)
	for _, whole := range []string{"\r\n--" + boundary + "--\n", "\r\n--" + boundary + "\n"} {
		for i := range whole {
			k.rests = append(k.rests, whole[i:])
		}
	}
	return k
}

// longest is more bytes than a line's end and a delimiter have.
const longest = 100

// begins tells whether bytes are the beginning of what a pattern is of.
func (k *border) begins(b string, p *regexp.Regexp) bool {
	if len(b) > longest {
		return false
	}
	key := p.String() + "\x00" + b
	was, ok := k.asked[key]
	if !ok {
		if slices.ContainsFunc(k.rests, func(rest string) bool { return p.MatchString(b + rest) }) {
			was = 1
		}
		k.asked[key] = was
	}
	return was == 1
}

// shown tells the place of the byte that shows that the byte at i is the part's that begins at first.
func (k *border) shown(b string, first, i int) int {
	for j := i; j < len(b); j++ {
		held := k.begins(b[first:j+1], k.bare)
		for c := max(first, i-longest); c <= i && !held; c++ {
			held = (b[c] == '\r' || b[c] == '\n') && k.begins(b[c:j+1], k.behind)
		}
		if !held {
			return j
		}
	}
	return len(b)
}

// line is where a line's text stands, and where the next one begins.
type line struct{ begin, stop, next int }

// lines tells the lines of bytes; the last one has no end, and may be empty.
func lines(b string) []line {
	var out []line
	at := 0
	for {
		text, _, ended := strings.Cut(b[at:], "\n")
		if !ended {
			return append(out, line{at, len(b), len(b)})
		}
		next := at + len(text) + 1
		out = append(out, line{at, at + len(strings.TrimSuffix(text, "\r")), next})
		at = next
	}
}

// slowly tells what bytes say, with all of them in sight.
func (k *border) slowly(b string) answer {
	var a answer
	first, stop := -1, -1 // where the open part begins, and where the line ahead stops
	for _, l := range lines(b) {
		place := len(b)
		if l.stop < l.next {
			place = l.next - 1
		}
		m := k.line.FindStringSubmatch(b[l.begin:l.stop])
		if m != nil && first >= 0 {
			k.part(&a, b, first, max(first, stop))
			a.say(closed, place)
		}
		switch {
		case m == nil:
		case m[1] != "":
			return a
		default:
			a.say(opened, place)
			first = l.next
		}
		stop = l.stop
	}
	if first >= 0 {
		k.part(&a, b, first, len(b))
		a.say(closed, len(b))
	}
	a.why = api.NoClose
	return a
}

// part says the bytes of a part from its first one on.
func (k *border) part(a *answer, b string, first, stop int) {
	a.parts = append(a.parts, b[first:stop])
	for i := first; i < stop; i++ {
		a.say(api.Event{Kind: api.EventByte, Byte: b[i]}, k.shown(b, first, i))
	}
}

// write tells how parts are written.
func (k *border) write(list []string) (string, bool) {
	out := ""
	for _, p := range list {
		for _, l := range lines(p) {
			if k.line.MatchString(p[l.begin:l.stop]) {
				return "", false
			}
		}
		out += "--" + k.boundary + "\r\n" + p + "\r\n"
	}
	return out + "--" + k.boundary + "--\r\n", true
}

// short is a text that may be shown.
func short(b string) string {
	if len(b) > 200 {
		return b[:200] + " .."
	}
	return b
}

// splitter makes a splitter.
func splitter(t *testing.T, boundary string) *parts.Splitter {
	t.Helper()
	s, e := parts.New(boundary)
	if s == nil || e != api.OK {
		t.Fatalf("New(%q) = %v %d", boundary, s, e)
	}
	return s
}

// wantQuiet holds it that Next tells nothing, again and again, and what Reason tells.
func wantQuiet(t *testing.T, note string, s *parts.Splitter, why api.Reason) {
	t.Helper()
	for range 2 {
		if e, ok := s.Next(); e != (api.Event{}) || ok {
			t.Fatalf("%q: Next = %v %t, not a zero event and false", short(note), e, ok)
		}
		if w := s.Reason(); w != why {
			t.Fatalf("%q: Reason = %d, not %d", short(note), w, why)
		}
	}
}

// wantShut holds it that nothing may be put in.
func wantShut(t *testing.T, note string, s *parts.Splitter) {
	t.Helper()
	for _, v := range []byte("x-b \r\n\x00") {
		if s.Put(v) {
			t.Fatalf("%q: Put(%q) = true", short(note), v)
		}
	}
}

// wantTold holds it that Next tells these events and no more, that Put and End do nothing ahead of each, and that Reason is None till then.
func wantTold(t *testing.T, note string, s *parts.Splitter, events []api.Event, why api.Reason) {
	t.Helper()
	for i, v := range events {
		wantShut(t, note, s)
		s.End()
		if w := s.Reason(); w != api.None {
			t.Fatalf("%q: Reason = %d ahead of Next", short(note), w)
		}
		if e, ok := s.Next(); e != v || !ok {
			t.Fatalf("%q: Next %d = %v %t, not %v true", short(note), i, e, ok, v)
		}
	}
	wantQuiet(t, note, s, why)
}

// wantOver holds it that nothing changes any more.
func wantOver(t *testing.T, note string, s *parts.Splitter, why api.Reason) {
	t.Helper()
	for range 2 {
		wantQuiet(t, note, s, why)
		wantShut(t, note, s)
		s.End()
	}
	wantQuiet(t, note, s, why)
}

// follow puts bytes into a splitter that is as behind New, then ends it, and holds all that is told against the slow one's answer.
func follow(t *testing.T, s *parts.Splitter, b string, a answer) {
	t.Helper()
	wantQuiet(t, b, s, api.None)
	for i := range len(b) {
		if !s.Put(b[i]) {
			t.Fatalf("%q: Put of byte %d = false", short(b), i)
		}
		wantTold(t, b, s, a.with(i), api.None)
	}
	s.End()
	wantTold(t, b, s, a.with(len(b)), a.why)
	wantOver(t, b, s, a.why)
}

// texts tells lists of bytes as texts.
func texts(list [][]byte) []string {
	var out []string
	for _, p := range list {
		out = append(out, string(p))
	}
	return out
}

// holdWhole holds Whole's answer against what is wanted.
func holdWhole(t *testing.T, b, boundary string, list []string, why api.Reason) {
	t.Helper()
	given := []byte(b)
	got, w, e := parts.Whole(given, boundary)
	if !slices.Equal(texts(got), list) || w != why || e != api.OK {
		t.Fatalf("Whole(%q, %q) = %q %d %d, not %q %d", short(b), boundary, got, w, e, list, why)
	}
	if string(given) != b {
		t.Fatalf("Whole changed %q to %q", short(b), short(string(given)))
	}
}

// hold holds all that is told of bytes against the slow one's answer.
func (k *border) hold(t *testing.T, b string) answer {
	t.Helper()
	a := k.slowly(b)
	follow(t, splitter(t, k.boundary), b, a)
	holdWhole(t, b, k.boundary, a.parts, a.why)
	return a
}

// want holds all that is told of bytes, by the slow one, too, against what is wanted.
func (k *border) want(t *testing.T, b string, why api.Reason, list ...string) {
	t.Helper()
	if a := k.hold(t, b); !slices.Equal(a.parts, list) || a.why != why {
		t.Fatalf("%q at %q: the slow one tells %q %d, not %q %d", short(b), k.boundary, a.parts, a.why, list, why)
	}
}
