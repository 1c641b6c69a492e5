package sixbits_test

import (
	"bytes"
	"slices"
	"strconv"
	"strings"
	"testing"

	"winkle/api"
	"winkle/sixbits"
)

// said are the letters, in the order of what they say.
const said = "ABCDEFGHIJKLMNOPQRSTUVWXYZ" + "abcdefghijklmnopqrstuvwxyz" + "0123456789" + "+/"

// blanks are what is passed over.
const blanks = "\t\n\r "

// answer is what some bytes say.
type answer struct {
	out   []byte
	known []int      // with which byte of those that were put in each one of out is known
	why   api.Reason // why it was stopped by a byte; None: by none
	at    int        // the bytes ahead of that one, or all
	begun bool       // a group was begun and has not its four
}

// end tells why it is stopped at the end.
func (a answer) end() api.Reason {
	if a.why == api.None && a.begun {
		return api.Cut
	}
	return a.why
}

// kind tells what a byte is: a blank, a letter (L), an = or something else (x).
func kind(b byte) string {
	switch {
	case strings.IndexByte(blanks, b) >= 0:
		return ""
	case strings.IndexByte(said, b) >= 0:
		return "L"
	case b == '=':
		return "="
	}
	return "x"
}

// slowly tells what bytes say: a group is a text of its kinds, and its bits a text of digits.
func slowly(b []byte) answer {
	a := answer{at: len(b)}
	group, bits, over := "", "", false
	for i, v := range b {
		k := kind(v)
		if k == "" {
			continue
		}
		more := group + k
		switch {
		case over || group == "LL=" && k != "=" || (more == "=" || more == "L="):
			a.why = api.BadPad
		case k == "x":
			a.why = api.BadStray
		}
		if a.why != api.None {
			a.at = i
			return a
		}
		group = more
		if k == "L" {
			six := strconv.FormatInt(int64(strings.IndexByte(said, v)), 2)
			bits += strings.Repeat("0", 6-len(six)) + six
		}
		if len(bits) >= 8 {
			told, _ := strconv.ParseUint(bits[:8], 2, 8)
			a.out, a.known = append(a.out, byte(told)), append(a.known, i)
			bits = bits[8:]
		}
		if len(group) == 4 {
			over = strings.HasSuffix(group, "=")
			group, bits = "", ""
		}
		a.begun = group != ""
	}
	return a
}

// wantPut puts a byte in, and holds what is told against what is wanted.
func wantPut(t *testing.T, note string, d *sixbits.Decoder, b byte, out byte, has bool, why api.Reason) {
	t.Helper()
	if o, h, w := d.Put(b); o != out || h != has || w != why {
		t.Fatalf("%s: Put(%q) = %d %t %d, not %d %t %d", note, b, o, h, w, out, has, why)
	}
}

// wantEnd holds End's answer against what is wanted, twice.
func wantEnd(t *testing.T, note string, d *sixbits.Decoder, why api.Reason) {
	t.Helper()
	for range 2 {
		if w := d.End(); w != why {
			t.Fatalf("%s: End = %d, not %d", note, w, why)
		}
	}
}

// wantStopped holds a stopped decoder against what it must tell, whatever is put in.
func wantStopped(t *testing.T, note string, d *sixbits.Decoder, why api.Reason) {
	t.Helper()
	for i := range 600 {
		wantPut(t, note, d, byte(i), 0, false, why)
		if i%100 == 50 {
			wantEnd(t, note, d, why)
		}
	}
}

// follow puts bytes into a decoder that is as behind New, and holds each answer against the slow one's. It stops behind the byte that stops it.
func follow(t *testing.T, d *sixbits.Decoder, b []byte, a answer) {
	t.Helper()
	at := 0
	for i, v := range b {
		out, has, why := byte(0), false, api.None
		if at < len(a.known) && a.known[at] == i {
			out, has = a.out[at], true
			at++
		}
		if a.why != api.None && a.at == i {
			why = a.why
		}
		if o, h, w := d.Put(v); o != out || h != has || w != why {
			t.Fatalf("%q: Put of byte %d = %d %t %d, not %d %t %d", b, i, o, h, w, out, has, why)
		}
		if why != api.None {
			return
		}
	}
}

// holdWhole holds Whole's answer against the slow one's.
func holdWhole(t *testing.T, b []byte, a answer) {
	t.Helper()
	was := slices.Clone(b)
	if out, why, at := sixbits.Whole(b); !bytes.Equal(out, a.out) || why != a.end() || at != a.at {
		t.Fatalf("Whole(%q) = %q %d %d, not %q %d %d", b, out, why, at, a.out, a.end(), a.at)
	}
	if !bytes.Equal(b, was) {
		t.Fatalf("Whole changed %q to %q", was, b)
	}
}

// hold holds all that bytes say, with End and what is put in behind it, against the slow one's.
func hold(t *testing.T, b []byte) {
	t.Helper()
	a := slowly(b)
	d := sixbits.New()
	follow(t, d, b, a)
	wantEnd(t, string(b), d, a.end())
	if a.end() != api.None {
		wantStopped(t, string(b), d, a.end())
	}
	d.Reset()
	follow(t, d, b, a)
	holdWhole(t, b, a)
}
