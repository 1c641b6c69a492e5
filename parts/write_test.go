package parts_test

import (
	"bytes"
	"errors"
	"io"
	"math/rand"
	"mime/multipart"
	"slices"
	"strings"
	"testing"

	"winkle/api"
	"winkle/parts"
)

// lists tells texts as lists of bytes, each with spare room that holds something.
func lists(list []string) [][]byte {
	var out [][]byte
	for _, p := range list {
		out = append(out, append([]byte(p), "spare"...)[:len(p)])
	}
	return out
}

// spare tells a list with all of its room.
func spare(b []byte) []byte { return b[:cap(b)] }

// holdWrite holds Write's answer against the slow one's, and Whole of it against the parts.
func (k *border) holdWrite(t *testing.T, list []string) bool {
	t.Helper()
	body, may := k.write(list)
	given, was := lists(list), lists(list)
	got, ok := parts.Write(given, k.boundary)
	if string(got) != body || ok != may {
		t.Fatalf("Write(%q, %q) = %q %t, not %q %t", list, k.boundary, got, ok, body, may)
	}
	for i := range was {
		if !bytes.Equal(spare(given[i]), spare(was[i])) {
			t.Fatalf("Write changed %q to %q", spare(was[i]), spare(given[i]))
		}
	}
	if ok {
		holdWhole(t, body, k.boundary, list, api.None)
		holdWhole(t, "ahead\n"+body+"--"+k.boundary+"\nbehind", k.boundary, list, api.None)
	}
	return ok
}

// wantWritten holds it that parts can be written.
func (k *border) wantWritten(t *testing.T, list ...string) {
	t.Helper()
	if !k.holdWrite(t, list) {
		t.Fatalf("%q at %q: not written", list, k.boundary)
	}
}

// wantRefused holds it that parts can't be written.
func (k *border) wantRefused(t *testing.T, list ...string) {
	t.Helper()
	if k.holdWrite(t, list) {
		t.Fatalf("%q at %q: written", list, k.boundary)
	}
}

// P14.5: the very bytes.
func TestWrittenBytes(t *testing.T) {
	for _, x := range []struct {
		list []string
		body string
	}{
		{nil, "--a b--\r\n"},
		{[]string{}, "--a b--\r\n"},
		{[]string{""}, "--a b\r\n\r\n--a b--\r\n"},
		{[]string{"x"}, "--a b\r\nx\r\n--a b--\r\n"},
		{[]string{"x\n", "", "\r\n"}, "--a b\r\nx\n\r\n--a b\r\n\r\n--a b\r\n\r\n\r\n--a b--\r\n"},
	} {
		if b, ok := parts.Write(lists(x.list), "a b"); string(b) != x.body || !ok {
			t.Errorf("Write(%q) = %q %t, not %q", x.list, b, ok, x.body)
		}
	}
	if b, ok := parts.Write([][]byte{nil, {}}, "b"); string(b) != "--b\r\n\r\n--b\r\n\r\n--b--\r\n" || !ok {
		t.Errorf("Write of no bytes = %q %t", b, ok)
	}
}

// P14.5, P14.6: parts of many kinds, one and many of them.
func TestWrite(t *testing.T) {
	k := borders("b")
	k.wantWritten(t)
	k.wantWritten(t, "")
	k.wantWritten(t, "", "", "")
	all := make([]byte, 256)
	for i := range all {
		all[i] = byte(i)
		k.wantWritten(t, string(all[i:i+1]))
		k.wantWritten(t, string(all[i:i+1])+"\r\n"+string(all[i:i+1]))
	}
	k.wantWritten(t, string(all))
	for _, tail := range []string{"\n", "\r\n", "\r", "\n\n", "\r\n\r\n", "\r\r\n", "\n\r", "\n\n\n", "\r\n\r\n\r\n", "\r\r"} {
		k.wantWritten(t, tail)
		k.wantWritten(t, "x"+tail)
		k.wantWritten(t, tail+"x")
		k.wantWritten(t, tail, tail+tail, "x"+tail+"x")
	}
	var many []string
	for i := range 500 {
		many = append(many, strings.Repeat("x\r\n", i%7)+strings.Repeat("y", i%5))
	}
	k.wantWritten(t, many...)
	k.wantWritten(t, strings.Repeat("x--b\n", 20000))
}

// P14.5: a line that is a delimiter, in any of a part's lines and in any part.
func TestWriteOfDelimiters(t *testing.T) {
	k := borders("b")
	for _, end := range ends {
		for _, d := range []string{"--b", "--b--", "--b ", "--b\t", "--b--\t ", "--b" + strings.Repeat(" ", 16), "--b--" + strings.Repeat("\t", 16)} {
			for _, p := range []string{d, d + end, d + end + "x", "x" + end + d, "x" + end + d + end, "x" + end + d + end + "y", end + d, end + end + d + end + end, d + end + d, "\r\r\n" + d} {
				k.wantRefused(t, p)
				k.wantRefused(t, p, "x")
				k.wantRefused(t, "x", p)
				k.wantRefused(t, "", p, "")
				k.wantRefused(t, p, p)
			}
			for _, p := range []string{"x" + d, d + "x", d + "-", " " + d, "-" + d, d[1:], "\t" + d, d + "\r\r\n", "\r" + d, d + "\x00", d + strings.Repeat(" ", 17)} {
				k.wantWritten(t, p)
				k.wantWritten(t, p+end)
				k.wantWritten(t, "x"+end+p+end+"y")
				k.wantWritten(t, "x"+end+p, p)
			}
			k.wantWritten(t, d+"\r") // no 10 stands behind it in the part, and what is written behind it is another 13
			k.wantWritten(t, "x"+end+d+"\r", d+"\r")
			k.wantRefused(t, "x"+end+d+"\r\n")
		}
		k.wantWritten(t, "-"+end+"--"+end+"--B"+end+"--bb"+end+"--b -"+end+"--b --"+end+"--b- -")
	}
	// A line that is begun in one part and goes on in the next one is none.
	k.wantWritten(t, "x\n--", "b\n")
	k.wantWritten(t, "x\n", "x\n-", "-b")
	long := borders("bc")
	long.wantWritten(t, "--b\n--b--\n")
	long.wantRefused(t, "--b\n--bc")
	borders("b--").wantRefused(t, "--b--")
	borders("b--").wantWritten(t, "--b")
}

// P14.5: a boundary that is none.
func TestWriteWithoutABoundary(t *testing.T) {
	for _, boundary := range []string{"", " ", "b ", "b\r\n", "b;", "b\"", "\x00", "\xff", strings.Repeat("b", 71)} {
		for _, list := range [][]string{nil, {""}, {"x"}, {"--" + boundary}} {
			if b, ok := parts.Write(lists(list), boundary); len(b) > 0 || ok {
				t.Errorf("Write(%q, %q) = %q %t", list, boundary, b, ok)
			}
		}
	}
}

// P14.5, P14.6: all short rows of a delimiter's bytes and words, as one part and as two.
func TestWriteOfEveryShortRow(t *testing.T) {
	k := borders("b")
	rows(5, []string{"--b", "-", " ", "\r", "\n", "x"}, func(b string) {
		k.holdWrite(t, []string{b})
		k.holdWrite(t, []string{"y", b + "\r\n"})
	})
}

// P14.6: parts put together by chance, at many boundaries.
func TestWriteByChance(t *testing.T) {
	r := rand.New(rand.NewSource(6))
	for _, boundary := range []string{"b", "-", "--", "a b", "b--", "aab", strings.Repeat("ab", 35)} {
		k := borders(boundary)
		d := "--" + boundary
		words := []string{d, d + "x", d + "--", "\n", "\r\n", "\r", "x", "-", " ", "\t", "y\r\n", "z\n", "\n-", d[:len(d)-1]}
		written := 0
		for range 1000 {
			list := make([]string, r.Intn(4))
			for i := range list {
				for range r.Intn(12) {
					list[i] += words[r.Intn(len(words))]
				}
			}
			if k.holdWrite(t, list) {
				written++
			}
		}
		if written < 100 || written > 950 {
			t.Errorf("%q: %d were written", boundary, written)
		}
	}
}

// P14.5: what is written says the same to the library's reader.
func TestWrittenForTheLibrary(t *testing.T) {
	list := []string{"\r\none", "A: b\r\n\r\ntwo\r\n", "A: b\r\n\r\n", "\r\n\r\n--b-\r\nx--b\r\n"}
	bodies := []string{"one", "two\r\n", "", "\r\n--b-\r\nx--b\r\n"}
	body, ok := parts.Write(lists(list), "b")
	if !ok {
		t.Fatal("not written")
	}
	r := multipart.NewReader(bytes.NewReader(body), "b")
	for i, want := range bodies {
		p, e := r.NextRawPart()
		if e != nil {
			t.Fatalf("part %d: %v", i, e)
		}
		if got, e := io.ReadAll(p); string(got) != want || e != nil {
			t.Errorf("part %d: %q %v, not %q", i, got, e, want)
		}
	}
	if _, e := r.NextRawPart(); !errors.Is(e, io.EOF) {
		t.Errorf("behind the last part: %v", e)
	}
}

// P14.4: what the library's writer writes says the same here.
func TestWrittenByTheLibrary(t *testing.T) {
	for _, boundary := range []string{"b", "a b", "b--", strings.Repeat("b", 70), signs + "b"} {
		var body bytes.Buffer
		w := multipart.NewWriter(&body)
		if e := w.SetBoundary(boundary); e != nil {
			t.Fatal(e)
		}
		var list []string
		for _, text := range []string{"", "one", "two\r\n", "\nthree\n\n", "--\r\n-"} {
			p, e := w.CreatePart(map[string][]string{"A": {"b"}})
			if e != nil {
				t.Fatal(e)
			}
			io.WriteString(p, text)
			list = append(list, "A: b\r\n\r\n"+text)
		}
		w.Close()
		holdWhole(t, body.String(), boundary, list, api.None)
	}
}

// Rule 3: what Whole and Write answered may be changed, and what was handed in, too, without changing another answer.
func TestAnswersAreNew(t *testing.T) {
	body := []byte("--b\none\n--b\ntwo\n\n--b\n--b\nthree\n--b--")
	want := []string{"one", "two\n", "", "three"}
	first, _, _ := parts.Whole(body, "b")
	second, _, _ := parts.Whole(body, "b")
	clear(body)
	for i, p := range first {
		for j := range spare(p) {
			spare(p)[j] = '#'
		}
		if got := texts(first[i+1:]); !slices.Equal(got, want[i+1:]) {
			t.Errorf("a change of part %d changed others to %q", i, got)
		}
		_ = append(p, "more"...)
	}
	if got := texts(second); !slices.Equal(got, want) {
		t.Errorf("a change of one answer changed the other to %q", got)
	}
	clear(first[:cap(first)])
	list := lists(want)
	one, _ := parts.Write(list, "b")
	two, _ := parts.Write(list, "b")
	text := string(two)
	for _, p := range list {
		clear(spare(p))
	}
	if string(one) != text {
		t.Errorf("a change of the parts changed the answer to %q", one)
	}
	clear(spare(one))
	if string(two) != text {
		t.Errorf("a change of one answer changed the other to %q", two)
	}
	again, _, _ := parts.Whole(two, "b")
	clear(spare(two))
	if got := texts(again); !slices.Equal(got, want) {
		t.Errorf("a change of the body changed the parts to %q", got)
	}
}
