package header_test

import (
	"regexp"
	"slices"
	"strings"
	"testing"

	"winkle/api"
	"winkle/header"
)

// answer is what bytes say as a header.
type answer struct {
	fields []api.Field
	used   int        // the bytes that were put in when it was done or stopped, or all
	done   bool       // it is done with a byte, ahead of the end
	why    api.Reason // why it is stopped, by a byte or by the end
	byEnd  bool       // it is the end that stops it
}

// begins is a line that begins a field: its name and its value.
var begins = regexp.MustCompile(`(?s)^([!-9;-~]+):(.*)$`)

// slowly tells what bytes say, with all of them in sight.
func slowly(b string, most int) answer {
	a := answer{used: min(len(b), most+1)}
	rest := b[:min(len(b), most)]
	at := 0
	for {
		line, behind, ended := strings.Cut(rest, "\n")
		if !ended {
			break
		}
		at += len(line) + 1
		rest = behind
		line = strings.TrimSuffix(line, "\r")
		if line == "" {
			a.used, a.done = at, true
			return a.trimmed()
		}
		if a.count(line); a.why != api.None {
			return answer{used: at, why: a.why}
		}
	}
	if len(b) > most {
		return answer{used: a.used, why: api.BigHeader}
	}
	if rest != "" {
		a.count(rest)
	}
	if a.why != api.None {
		return answer{used: a.used, why: a.why, byEnd: true}
	}
	return a.trimmed()
}

// count counts a line.
func (a *answer) count(line string) {
	n := len(a.fields)
	if strings.IndexByte("\t ", line[0]) >= 0 && n > 0 {
		a.fields[n-1].Value += line
		return
	}
	m := begins.FindStringSubmatch(line)
	switch {
	case m == nil:
		a.why = api.BadField
	case n == 64:
		a.why = api.BigHeader
	default:
		a.fields = append(a.fields, api.Field{Name: m[1], Value: m[2]})
	}
}

// trimmed tells the answer with its values as they are told.
func (a answer) trimmed() answer {
	for i := range a.fields {
		a.fields[i].Value = strings.Trim(a.fields[i].Value, "\t ")
	}
	return a
}

// short is a text that may be shown.
func short(b string) string {
	if len(b) > 200 {
		return b[:200] + " .."
	}
	return b
}

// reader makes a reader.
func reader(t *testing.T, most int) *header.Reader {
	t.Helper()
	h, e := header.New(most)
	if h == nil || e != api.OK {
		t.Fatalf("New(%d) = %v %d", most, h, e)
	}
	return h
}

// wantFields holds it that Fields tells these, again and again, and that what it told may be changed.
func wantFields(t *testing.T, note string, h *header.Reader, fields []api.Field) {
	t.Helper()
	for range 2 {
		got := h.Fields()
		if !slices.Equal(got, fields) {
			t.Fatalf("%q: Fields = %q, not %q", short(note), got, fields)
		}
		got = got[:cap(got)]
		for i := range got {
			got[i] = api.Field{Name: "changed", Value: "changed"}
		}
	}
}

// wantPut puts a byte in, and holds what is told of it against what is wanted.
func wantPut(t *testing.T, note string, h *header.Reader, b byte, done bool, why api.Reason) {
	t.Helper()
	if d, w := h.Put(b); d != done || w != why {
		t.Fatalf("%q: Put(%q) = %t %d, not %t %d", short(note), b, d, w, done, why)
	}
}

// wantOver holds it that nothing changes any more.
func wantOver(t *testing.T, note string, h *header.Reader, fields []api.Field, why api.Reason) {
	t.Helper()
	for range 2 {
		wantFields(t, note, h, fields)
		for _, b := range []byte("a: \r\n\n\x00\xff") {
			wantPut(t, note, h, b, why == api.None, why)
		}
		if w := h.End(); w != why {
			t.Fatalf("%q: End = %d, not %d", short(note), w, why)
		}
	}
	wantFields(t, note, h, fields)
}

// follow puts bytes into a reader that is as behind New, then ends it, and holds all that is told against the slow one's answer.
func follow(t *testing.T, h *header.Reader, b string, a answer) {
	t.Helper()
	wantFields(t, b, h, nil)
	for i := range a.used {
		stops := i == a.used-1 && a.why != api.None && !a.byEnd
		switch {
		case stops:
			wantPut(t, b, h, b[i], false, a.why)
		default:
			wantPut(t, b, h, b[i], i == a.used-1 && a.done, api.None)
		}
		if i < a.used-1 {
			wantNone(t, b, h)
		}
	}
	if !a.done {
		wantNone(t, b, h)
		if w := h.End(); w != a.why {
			t.Fatalf("%q: End = %d, not %d", short(b), w, a.why)
		}
	}
	wantOver(t, b, h, a.fields, a.why)
}

// wantNone holds it that no fields are told.
func wantNone(t *testing.T, note string, h *header.Reader) {
	t.Helper()
	if f := h.Fields(); len(f) != 0 {
		t.Fatalf("%q: Fields = %q", short(note), f)
	}
}

// holdWhole holds Whole's answer against the slow one's.
func holdWhole(t *testing.T, b string, most int, a answer) {
	t.Helper()
	given := []byte(b)
	f, used, why, e := header.Whole(given, most)
	if !slices.Equal(f, a.fields) || used != a.used || why != a.why || e != api.OK {
		t.Fatalf("Whole(%q, %d) = %q %d %d %d, not %q %d %d", short(b), most, f, used, why, e, a.fields, a.used, a.why)
	}
	if string(given) != b {
		t.Fatalf("Whole changed %q to %q", short(b), short(string(given)))
	}
}

// hold holds all that is told of bytes against the slow one's answer, by a new reader and by one that begins anew.
func hold(t *testing.T, b string, most int) {
	t.Helper()
	a := slowly(b, most)
	h := reader(t, most)
	follow(t, h, b, a)
	h.Reset()
	follow(t, h, b, a)
	holdWhole(t, b, most, a)
}
