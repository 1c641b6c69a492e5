package quoted_test

import (
	"bytes"
	"slices"
	"strings"
	"testing"

	"winkle/api"
	"winkle/quoted"
)

// most is how many blanks are held.
const most = 64

// answer is what a text says.
type answer struct {
	out   []byte
	known []int      // the place of the byte with which each one of out is known; as many as there are bytes: at the end
	why   api.Reason // why the text is stopped
	at    int        // the bytes ahead of the one that stopped it, or all
}

// say lays a byte behind the others.
func (a *answer) say(b byte, known int) {
	a.out, a.known = append(a.out, b), append(a.known, known)
}

// with tells the bytes that are known with the one at a place.
func (a answer) with(place int) []byte {
	var out []byte
	for i, v := range a.known {
		if v == place {
			out = append(out, a.out[i])
		}
	}
	return out
}

// worth tells a digit's number, or -1.
func worth(b byte) int {
	const small, capital = "0123456789abcdef", "0123456789ABCDEF"
	return max(strings.IndexByte(small, b), strings.IndexByte(capital, b))
}

// slowly tells what a text says, with all of it in sight.
func slowly(b []byte) answer {
	a := answer{at: len(b)}
	for i := 0; i < len(b) && a.why == api.None; {
		switch {
		case b[i] == '=':
			i = a.mark(string(b), i)
		case strings.IndexByte("\t ", b[i]) >= 0:
			i = a.blanks(string(b), i)
		case b[i] == '\r':
			a.say(b[i], i+1)
			i++
		default:
			a.say(b[i], i)
			i++
		}
	}
	return a
}

// mark reads the = at i: where to go on.
func (a *answer) mark(b string, i int) int {
	rest := b[i+1:]
	for _, end := range []string{"\n", "\r\n"} {
		if strings.HasPrefix(rest, end) {
			return i + 1 + len(end)
		}
	}
	if rest == "" || rest == "\r" {
		return len(b)
	}
	digit := worth(rest[0]) >= 0
	switch {
	case digit && len(rest) == 1:
		a.why, a.at = api.Cut, len(b)
	case digit && worth(rest[1]) >= 0:
		a.say(byte(worth(rest[0])*16+worth(rest[1])), i+2)
	case digit || rest[0] == '\r':
		a.why, a.at = api.BadEscape, i+2
	default:
		a.why, a.at = api.BadEscape, i+1
	}
	return i + 3
}

// blanks reads the run of blanks at i: where to go on.
func (a *answer) blanks(b string, i int) int {
	behind := strings.TrimLeft(b[i:], "\t ")
	next := len(b) - len(behind)
	mute := behind == "" || behind[0] == '\n' || strings.HasPrefix(behind, "\r\n")
	shown := next
	if strings.HasPrefix(behind, "\r") {
		shown++ // the byte behind the 13, or the end
	}
	for ; i < next; i++ {
		switch {
		case i+most < next:
			a.say(b[i], i+most)
		case !mute:
			a.say(b[i], shown)
		}
	}
	return next
}

// wantQuiet holds it that Next tells nothing, again and again, and what Reason tells.
func wantQuiet(t *testing.T, note string, d *quoted.Decoder, why api.Reason) {
	t.Helper()
	for range 2 {
		if b, ok := d.Next(); b != 0 || ok {
			t.Fatalf("%q: Next = %d %t, not 0 false", note, b, ok)
		}
		if w := d.Reason(); w != why {
			t.Fatalf("%q: Reason = %d, not %d", note, w, why)
		}
	}
}

// wantShut holds it that nothing may be put in.
func wantShut(t *testing.T, note string, d *quoted.Decoder) {
	t.Helper()
	for _, v := range []byte("a=4 \r\n\x00") {
		if d.Put(v) {
			t.Fatalf("%q: Put(%q) = true", note, v)
		}
	}
}

// wantTold holds it that Next tells these bytes and no more, that Put and End do nothing ahead of each, and that Reason is None till then.
func wantTold(t *testing.T, note string, d *quoted.Decoder, out []byte, why api.Reason) {
	t.Helper()
	for i, v := range out {
		wantShut(t, note, d)
		d.End()
		if w := d.Reason(); w != api.None {
			t.Fatalf("%q: Reason = %d ahead of Next", note, w)
		}
		if b, ok := d.Next(); b != v || !ok {
			t.Fatalf("%q: Next %d = %q %t, not %q true", note, i, b, ok, v)
		}
	}
	wantQuiet(t, note, d, why)
}

// wantPut puts a byte in, and holds what is told then against what is wanted.
func wantPut(t *testing.T, note string, d *quoted.Decoder, b byte, out string) {
	t.Helper()
	if !d.Put(b) {
		t.Fatalf("%q: Put(%q) = false", note, b)
	}
	wantTold(t, note, d, []byte(out), api.None)
}

// wantOver holds it that nothing changes any more.
func wantOver(t *testing.T, note string, d *quoted.Decoder, why api.Reason) {
	t.Helper()
	for range 2 {
		wantQuiet(t, note, d, why)
		wantShut(t, note, d)
		d.End()
	}
	wantQuiet(t, note, d, why)
}

// wantEnd ends the text, and holds what is told then against what is wanted.
func wantEnd(t *testing.T, note string, d *quoted.Decoder, out string, why api.Reason) {
	t.Helper()
	d.End()
	wantTold(t, note, d, []byte(out), why)
	wantOver(t, note, d, why)
}

// follow puts a text into a decoder that is as behind New, byte by byte, then ends it, and holds all that is told against the slow one's answer.
func follow(t *testing.T, d *quoted.Decoder, b []byte, a answer) {
	t.Helper()
	note := string(b)
	if len(note) > 200 {
		note = note[:200] + " .."
	}
	for i, v := range b {
		if !d.Put(v) {
			t.Fatalf("%q: Put of byte %d = false", note, i)
		}
		if a.why == api.BadEscape && a.at == i {
			wantOver(t, note, d, a.why)
			return
		}
		wantTold(t, note, d, a.with(i), api.None)
	}
	wantEnd(t, note, d, string(a.with(len(b))), a.why)
}

// holdWhole holds Whole's answer against the slow one's.
func holdWhole(t *testing.T, b []byte, a answer) {
	t.Helper()
	was := slices.Clone(b)
	if out, why, at := quoted.Whole(b); !bytes.Equal(out, a.out) || why != a.why || at != a.at {
		t.Fatalf("Whole(%q) = %q %d %d, not %q %d %d", b, out, why, at, a.out, a.why, a.at)
	}
	if !bytes.Equal(b, was) {
		t.Fatalf("Whole changed %q to %q", was, b)
	}
}

// hold holds all that is told of a text against the slow one's answer.
func hold(t *testing.T, b []byte) {
	t.Helper()
	a := slowly(b)
	d := quoted.New()
	follow(t, d, b, a)
	d.Reset()
	follow(t, d, b, a)
	holdWhole(t, b, a)
}
