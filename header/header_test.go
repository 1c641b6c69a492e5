package header_test

import (
	"math"
	"math/rand"
	"net/mail"
	"slices"
	"strconv"
	"strings"
	"testing"

	"winkle/api"
	"winkle/header"
)

// pairs makes fields of names and values by turns.
func pairs(texts ...string) []api.Field {
	var out []api.Field
	for i := 0; i < len(texts); i += 2 {
		out = append(out, api.Field{Name: texts[i], Value: texts[i+1]})
	}
	return out
}

// says holds it that bytes are a header of these fields, and how many of them it has.
func says(t *testing.T, b string, used int, texts ...string) {
	t.Helper()
	want(t, b, 999, pairs(texts...), used, api.None)
}

// stops holds it that bytes are no header, by which of them, and why.
func stops(t *testing.T, b string, used int, why api.Reason) {
	t.Helper()
	want(t, b, 999, nil, used, why)
}

// want holds Whole's answer, and the slow one's, against what is wanted, and the reader against the slow one.
func want(t *testing.T, b string, most int, fields []api.Field, used int, why api.Reason) {
	t.Helper()
	f, n, w, e := header.Whole([]byte(b), most)
	if !slices.Equal(f, fields) || n != used || w != why || e != api.OK {
		t.Errorf("Whole(%q, %d) = %q %d %d %d, not %q %d %d", short(b), most, f, n, w, e, fields, used, why)
	}
	if a := slowly(b, most); !slices.Equal(a.fields, fields) || a.used != used || a.why != why {
		t.Fatalf("%q, %d: the slow one tells %q %d %d, not %q %d %d", short(b), most, a.fields, a.used, a.why, fields, used, why)
	}
	hold(t, b, most)
}

// many makes lines of so many fields.
func many(n int) string {
	var b strings.Builder
	for i := range n {
		b.WriteString("f" + strconv.Itoa(i) + ": " + strconv.Itoa(i*i) + "\r\n")
	}
	return b.String()
}

// manyFields are the fields of many.
func manyFields(n int) []api.Field {
	var out []api.Field
	for i := range n {
		out = append(out, api.Field{Name: "f" + strconv.Itoa(i), Value: strconv.Itoa(i * i)})
	}
	return out
}

// The chapter's examples.
func TestExamples(t *testing.T) {
	want(t, "A: 1\r\n 2\r\nb:\n\nx", 99, pairs("A", "1 2", "b", ""), 14, api.None)
	want(t, "", 9, nil, 0, api.None)
	want(t, "A 1\n", 99, nil, 4, api.BadField)
	want(t, " A: 1\n", 99, nil, 6, api.BadField)
	want(t, "A: 1", 3, nil, 4, api.BigHeader)
	if v, ok := header.Get(pairs("A", "1", "a", "2"), "a"); v != "1" || !ok {
		t.Errorf("%q %t", v, ok)
	}
	if !header.Same("aB", "Ab") {
		t.Error("Same")
	}
	if s := header.Trim(" a "); s != "a" {
		t.Errorf("%q", s)
	}
}

// P12.1, P12.3: how many bytes a header may have.
func TestMost(t *testing.T) {
	for _, most := range []int{math.MinInt, -65536, -1, 0, 65537, 65538, 1 << 31, math.MaxInt} {
		if h, e := header.New(most); h != nil || e != api.ErrArg {
			t.Errorf("New(%d) = %v %d", most, h, e)
		}
		for _, b := range []string{"", "\n", "A: 1\n\nx", "A 1\n"} {
			if f, used, why, e := header.Whole([]byte(b), most); f != nil || used != 0 || why != api.None || e != api.ErrArg {
				t.Errorf("Whole(%q, %d) = %q %d %d %d", b, most, f, used, why, e)
			}
		}
	}
	for _, most := range []int{1, 2, 65535, 65536} {
		wantPut(t, "an empty line", reader(t, most), '\n', true, api.None)
		hold(t, "A: 1\n\n", most)
	}
}

// P12.1, P12.2: no bytes, and an empty line first.
func TestNoFields(t *testing.T) {
	says(t, "", 0)
	says(t, "\n", 1)
	says(t, "\r\n", 2)
	says(t, "\nA: 1\n\n", 1)
	says(t, "\r\nA: 1\n\n", 2)
	says(t, "\n\n", 1)
	says(t, "\r\n\r\n", 2)
}

// P12.1: ends of lines; a byte 13 that is none of an end belongs to its line.
func TestEndsOfLines(t *testing.T) {
	says(t, "A: 1\nB: 2\n\n", 11, "A", "1", "B", "2")
	says(t, "A: 1\r\nB: 2\r\n\r\n", 14, "A", "1", "B", "2")
	says(t, "A: 1\nB: 2\r\n\n", 12, "A", "1", "B", "2")
	says(t, "A: 1\r\nB: 2\n\r\n", 13, "A", "1", "B", "2")
	says(t, "A: 1\r\r\n\n", 8, "A", "1\r")
	says(t, "A: 1\r\r\r\n\n", 9, "A", "1\r\r")
	says(t, "A: 1 \r\r\n\n", 9, "A", "1 \r")
	says(t, "A: 1\r2\n\n", 8, "A", "1\r2")
	says(t, "A: 1\r 2\n\n", 9, "A", "1\r 2")
	says(t, "A: 1\rB: 2\n\n", 11, "A", "1\rB: 2")
	says(t, "A:\r1\n\n", 6, "A", "\r1")
	says(t, "A:\r\n\n", 5, "A", "")
	says(t, "A:\r\r\n\n", 6, "A", "\r")
	says(t, "A: 1\n \r\n\n", 9, "A", "1")
	says(t, "A: 1\n \r\r\n\n", 10, "A", "1 \r")
	stops(t, "\r\r\n", 3, api.BadField)
	stops(t, "A: 1\n\r\r\n", 8, api.BadField)
	stops(t, "\rA: 1\n", 6, api.BadField)
	stops(t, "A: 1\n\rB: 2\n", 11, api.BadField)
	stops(t, "A\r: 1\n", 6, api.BadField)
	stops(t, "A\r\n: 1\n", 3, api.BadField)
}

// P12.2: the bytes end at each place of a line.
func TestEndOfBytes(t *testing.T) {
	says(t, "A: 1\n", 5, "A", "1")
	says(t, "A: 1\r\n", 6, "A", "1")
	says(t, "A: 1", 4, "A", "1")
	says(t, "A: ", 3, "A", "")
	says(t, "A:", 2, "A", "")
	says(t, "A: 1\r", 5, "A", "1\r")
	says(t, "A:\r", 3, "A", "\r")
	says(t, "A: 1 \r", 6, "A", "1 \r")
	says(t, "A: 1\n 2", 7, "A", "1 2")
	says(t, "A: 1\n ", 6, "A", "1")
	says(t, "A: 1\n \r", 7, "A", "1 \r")
	says(t, "A: 1\nB: 2", 9, "A", "1", "B", "2")
	stops(t, "A", 1, api.BadField)
	stops(t, "Ab", 2, api.BadField)
	stops(t, "A\r", 2, api.BadField)
	stops(t, ":", 1, api.BadField)
	stops(t, " ", 1, api.BadField)
	stops(t, "\t", 1, api.BadField)
	stops(t, "\r", 1, api.BadField)
	stops(t, "A: 1\n\r", 6, api.BadField)
	stops(t, "A: 1\r\n\r", 7, api.BadField)
	stops(t, "A: 1\n\r\r", 7, api.BadField)
	stops(t, "A: 1\nB", 6, api.BadField)
	stops(t, "A: 1\n:", 6, api.BadField)
	stops(t, " A: 1", 5, api.BadField)
}

// P12.1, P12.3: bytes behind the empty line are not put in, whatever they are.
func TestBehindTheEmptyLine(t *testing.T) {
	for _, behind := range []string{"", "x", "\n", "B: 2\n\n", "no field\n", " 2\n", "\x00\xff", strings.Repeat("x", 5000)} {
		want(t, "A: 1\n\n"+behind, 99, pairs("A", "1"), 6, api.None)
		want(t, "A: 1\r\n\r\n"+behind, 8, pairs("A", "1"), 8, api.None)
		want(t, "\n"+behind, 1, nil, 1, api.None)
	}
}

// P12.1: every byte as a name, at its beginning, within it, and at its end.
func TestEveryByteOfAName(t *testing.T) {
	for i := range 256 {
		b := string([]byte{byte(i)})
		for _, x := range []struct{ ahead, behind string }{{"", ""}, {"", "b"}, {"a", "b"}, {"a", ""}} {
			name := x.ahead + b + x.behind
			for _, line := range []string{name + ": 1\n", "A: 0\n" + name + ": 1\r\n", name + ": 1"} {
				hold(t, line, 99)
			}
			if i == 10 {
				continue
			}
			line := name + ":1\n"
			colon := ":"
			switch {
			case b == colon && x.ahead == "":
				stops(t, line, len(line), api.BadField)
			case b == colon:
				says(t, line, len(line), x.ahead, x.behind+":1")
			case i < 33 || i > 126:
				stops(t, line, len(line), api.BadField)
			default:
				says(t, line, len(line), name, "1")
			}
		}
	}
	stops(t, "a\nb: 1\n", 2, api.BadField)
}

// P12.1: every byte within a value, at its beginning and at its end.
func TestEveryByteOfAValue(t *testing.T) {
	for i := range 256 {
		if i == 10 {
			continue
		}
		b := string([]byte{byte(i)})
		blank := i == 9 || i == 32
		says(t, "A:x"+b+"y\n\n", 7, "A", "x"+b+"y")
		says(t, "A:x\n "+b+"y\n\n", 9, "A", "x "+b+"y")
		begin, end := b+"x", "x"+b
		if blank {
			begin, end = "x", "x"
		}
		says(t, "A:"+b+"x\n\n", 6, "A", begin)
		says(t, "A: "+b+"x\n\n", 7, "A", begin)
		says(t, "A:x"+b+"\r\n\n", 7, "A", end)
		says(t, "A:x"+b, 4, "A", end)
	}
}

// P12.1: lines that begin a field, and lines that do not.
func TestLines(t *testing.T) {
	says(t, "a:1\n\n", 5, "a", "1")
	says(t, "!:1\n~:2\n\n", 9, "!", "1", "~", "2")
	says(t, "A:b:c\n\n", 7, "A", "b:c")
	says(t, "A::\n\n", 5, "A", ":")
	says(t, "A: :b: \n\n", 9, "A", ":b:")
	says(t, "A:\n\n", 4, "A", "")
	says(t, "A: \t \n\n", 7, "A", "")
	says(t, "A:\t\n\n", 5, "A", "")
	says(t, "A:1\nA:2\na:3\n\n", 13, "A", "1", "A", "2", "a", "3")
	says(t, strings.Repeat("n", 900)+":1\n\n", 904, strings.Repeat("n", 900), "1")
	stops(t, ":1\n", 3, api.BadField)
	stops(t, ":\n", 2, api.BadField)
	stops(t, "::1\n", 4, api.BadField)
	stops(t, "A :1\n", 5, api.BadField)
	stops(t, "A\t:1\n", 5, api.BadField)
	stops(t, "A b:1\n", 6, api.BadField)
	stops(t, "A\n", 2, api.BadField)
	stops(t, "From me\n", 8, api.BadField)
	stops(t, "A:1\nno field\n\n", 13, api.BadField)
	stops(t, "A:1\nno field\nB:2\n\n", 13, api.BadField)
	stops(t, "A\x7f:1\n", 5, api.BadField)
	stops(t, "\u00c4:1\n", 5, api.BadField)
}

// P12.1: a value is told without the blanks at its ends, and with those within it.
func TestBlanksOfValues(t *testing.T) {
	says(t, "A: 1\n\n", 6, "A", "1")
	says(t, "A:\t1\n\n", 6, "A", "1")
	says(t, "A: \t \t1\n\n", 9, "A", "1")
	says(t, "A:1 \n\n", 6, "A", "1")
	says(t, "A:1\t \t \n\n", 9, "A", "1")
	says(t, "A: 1 \r\n\r\n", 9, "A", "1")
	says(t, "A: \t1 \t2\t \n\n", 12, "A", "1 \t2")
	says(t, "A: \x0b1\x0c \n\n", 9, "A", "\x0b1\x0c")
	says(t, "A: \u00a01\u2003 \n\n", 12, "A", "\u00a01\u2003")
	says(t, "A: \xa01\xc2 \n\n", 9, "A", "\xa01\xc2")
}

// P12.1: lines that go on with a field.
func TestLinesThatGoOn(t *testing.T) {
	says(t, "A: 1\n 2\n\n", 9, "A", "1 2")
	says(t, "A: 1\n\t2\n\n", 9, "A", "1\t2")
	says(t, "A: 1 \n \t 2 \n\n", 13, "A", "1  \t 2")
	says(t, "A: 1\n 2\n 3\n\t4\n\n", 15, "A", "1 2 3\t4")
	says(t, "A:\n 1\n\n", 7, "A", "1")
	says(t, "A:\n \n \n 1\n \n\n", 13, "A", "1")
	says(t, "A: 1\n \n 2\n\n", 11, "A", "1  2")
	says(t, "A: 1\n \n\n", 8, "A", "1")
	says(t, "A: 1\n\t\r\n\r\n", 10, "A", "1")
	says(t, "A:\n \n\n", 6, "A", "")
	says(t, "A: 1\n B: 2\n\n", 12, "A", "1 B: 2")
	says(t, "A: 1\n no field\n\n", 16, "A", "1 no field")
	says(t, "A: 1\n :\n\n", 9, "A", "1 :")
	says(t, "A: 1\n 2\nB: 3\n 4\n\n", 17, "A", "1 2", "B", "3 4")
	says(t, "A: 1\nB:\n 2\n\n", 12, "A", "1", "B", "2")
	stops(t, " 1\n", 3, api.BadField)
	stops(t, "\tA: 1\n", 6, api.BadField)
	stops(t, " \n", 2, api.BadField)
	stops(t, " \nA: 1\n\n", 2, api.BadField)
	stops(t, "\t\r\n", 3, api.BadField)
	stops(t, " A: 1\n B: 2\n\n", 6, api.BadField)
	n := 3000
	want(t, "A: 1\n"+strings.Repeat(" 2\n", n)+"B: 3\n\n", 65536, pairs("A", "1"+strings.Repeat(" 2", n), "B", "3"), 5+3*n+6, api.None)
	want(t, "A:\n"+strings.Repeat(" \n", n)+"\n", 65536, pairs("A", ""), 4+2*n, api.None)
}

// P12.1: as many fields as there may be, one fewer, and one more.
func TestManyFields(t *testing.T) {
	for _, n := range []int{2, 63, 64} {
		b := many(n)
		want(t, b+"\n", 9999, manyFields(n), len(b)+1, api.None)
		want(t, b, 9999, manyFields(n), len(b), api.None)
		b = strings.TrimSuffix(b, "\r\n")
		want(t, b, 9999, manyFields(n), len(b), api.None)
	}
	for _, line := range []string{"g:1\n", "g: 1\r\n", "g:\n", "f1: 2\n"} {
		b := many(64) + line
		want(t, b, 9999, nil, len(b), api.BigHeader)
		want(t, b+"\n", 9999, nil, len(b), api.BigHeader)
	}
	want(t, many(66), 9999, nil, len(many(65)), api.BigHeader)
	want(t, many(64)+"g:1", 9999, nil, len(many(64))+3, api.BigHeader)
	want(t, many(64)+"g:", 9999, nil, len(many(64))+2, api.BigHeader)
}

// P12.1: a line that goes on behind the last field that may be.
func TestGoesOnBehindTheLastField(t *testing.T) {
	fields := manyFields(64)
	fields[63].Value += " x\ty"
	for _, end := range []string{"", "\n", "\r\n", "\n\n", "\n \n\n"} {
		b := many(64) + " x\n\ty" + end
		want(t, b, 9999, fields, len(b), api.None)
	}
	want(t, many(64)+" x\ng:1\n", 9999, nil, len(many(64))+7, api.BigHeader)
}

// P12.1: behind the last field that may be, a line that is no field is told as that.
func TestNoFieldBehindTheLastField(t *testing.T) {
	for _, line := range []string{"g\n", ":1\n", "g :1\n", "\r\r\n", "\x00:\n"} {
		b := many(64) + line
		want(t, b, 9999, nil, len(b), api.BadField)
		want(t, strings.TrimSuffix(b, "\n"), 9999, nil, len(b)-1, api.BadField)
	}
}

// P12.1: as many bytes as there may be, one fewer, and one more.
func TestManyBytes(t *testing.T) {
	for _, b := range []string{"\n", "\r\n", "A:1\n\n", "A:1\r\n\r\n", "A: 1\n 2\nB: 3\n\n", many(64) + "\n", "A:" + strings.Repeat("x", 65532) + "\n\n"} {
		fields := slowly(b, 99999).fields
		for most := max(1, len(b)-2); most <= min(65536, len(b)+2); most++ {
			if most < len(b) {
				want(t, b, most, nil, most+1, api.BigHeader)
			} else {
				want(t, b, most, fields, len(b), api.None)
				want(t, b+"xyz", most, fields, len(b), api.None)
			}
		}
	}
}

// P12.1: the byte that is one more than may be is told ahead of all else, whatever it ends.
func TestOneByteTooMany(t *testing.T) {
	for _, x := range []struct {
		b    string
		most int
	}{
		{"A:1\n\n", 4}, {"A:1\n\r\n", 5}, {"A:1\n\r\n", 4}, {"\r\n", 1}, // the empty line
		{"A 1\n", 3}, {"A:1\nB\n", 5}, {" \n", 1}, {"\r\r\n", 2}, // a line that is no field
		{"A:1\n", 3}, {"A:1\nB:2\n", 7}, // a line that begins a field
		{"A:1\n 2\n", 6},                                                            // a line that goes on
		{"A:1", 2}, {"AB", 1}, {"A:1\nB", 4}, {"A:1\nB:", 5}, {"\rA", 1}, {"  ", 1}, // within a line
		{many(64) + "g:1\n", len(many(64)) + 3}, {many(64) + "g\n", len(many(64)) + 1}, // a field too many, too
	} {
		want(t, x.b, x.most, nil, x.most+1, api.BigHeader)
		want(t, x.b+"\n\nmore", x.most, nil, x.most+1, api.BigHeader)
	}
	want(t, "A:1", 3, pairs("A", "1"), 3, api.None)
	want(t, "A 1", 3, nil, 3, api.BadField)
	want(t, "A 1\n", 4, nil, 4, api.BadField)
	want(t, "A:1\nB\nC", 6, nil, 6, api.BadField)
	// No byte counts less for not being told.
	want(t, "A:"+strings.Repeat(" \n", 50)+"\n", 102, nil, 103, api.BigHeader)
	want(t, "A:"+strings.Repeat(" \r\n", 50)+"\n", 153, pairs("A", ""), 153, api.None)
	want(t, strings.Repeat("A:\r\n", 30)+"\n", 120, nil, 121, api.BigHeader)
	want(t, "\r\r\r", 3, nil, 3, api.BadField)
}

// P12.1: done and why with each byte, not sooner and not later.
func TestWithEachByte(t *testing.T) {
	for _, x := range []struct {
		b    string
		done bool
		why  api.Reason
	}{
		{"\n", true, api.None}, {"\r\n", true, api.None}, {"A: 1\r\n 2\r\nb:\n\n", true, api.None}, {"A:\n \n\r\n", true, api.None},
		{"A 1\n", false, api.BadField}, {" \r\n", false, api.BadField}, {"A:1\nb\r\n", false, api.BadField}, {"\r\r\n", false, api.BadField},
		{many(64) + "g: 1\r\n", false, api.BigHeader}, {"A:" + strings.Repeat("x", 2000-2) + "y", false, api.BigHeader},
	} {
		h := reader(t, 2000)
		last := len(x.b) - 1
		for i := range last {
			wantPut(t, x.b[:i], h, x.b[i], false, api.None)
			wantNone(t, x.b[:i], h)
		}
		wantPut(t, x.b, h, x.b[last], x.done, x.why)
		for i := range 256 {
			wantPut(t, x.b, h, byte(i), x.done, x.why)
		}
		wantOver(t, x.b, h, slowly(x.b, 2000).fields, x.why)
	}
}

// P12.1: a reader that is done stays so, though more bytes are put in than a header may have.
func TestPutBehindDone(t *testing.T) {
	for _, b := range []string{"A: 1\n\n", "A: 1\r\n", "A: 1"} {
		h := reader(t, 6)
		for _, v := range []byte(b) {
			h.Put(v)
		}
		if w := h.End(); w != api.None {
			t.Fatalf("%q: End = %d", b, w)
		}
		for range 100 {
			wantOver(t, b, h, pairs("A", "1"), api.None)
		}
	}
}

// P12.2: End ahead of any byte, and again.
func TestEndFirst(t *testing.T) {
	h := reader(t, 1)
	wantNone(t, "ahead of End", h)
	for range 3 {
		if w := h.End(); w != api.None {
			t.Fatalf("End = %d", w)
		}
	}
	wantOver(t, "behind End", h, nil, api.None)
}

// P12.2: what is told behind End stays, and the bytes behind it count for nothing.
func TestBehindEnd(t *testing.T) {
	for _, b := range []string{"", "A: 1", "A: 1\n", "A: 1\n 2", "A: 1\r", "A", "\r", " ", "A: 1\nB", many(64), many(64) + "g:", many(64) + "g"} {
		h := reader(t, 3000)
		for _, v := range []byte(b) {
			wantPut(t, b, h, v, false, api.None)
		}
		a := slowly(b, 3000)
		for range 2 {
			if w := h.End(); w != a.why {
				t.Fatalf("%q: End = %d, not %d", b, w, a.why)
			}
		}
		for i := range 256 {
			wantPut(t, b, h, byte(i), a.why == api.None, a.why)
		}
		wantOver(t, b, h, a.fields, a.why)
	}
}

// places are bytes behind each of which a reader stands elsewhere.
var places = []string{
	"", "A", "A:", "A: 1", "A: 1\r", "A: 1\n", "A: 1\n ", "A: 1\n 2\nB", "\r", " ", "A: 1\n\r", many(63), many(64), many(64) + " x", many(64) + "g",
	"\n", "A: 1\n\n", "A: 1\r\n 2\r\n\r\n", many(64) + "\n", "A\n", " A: 1\n", "A: 1\nB\n", many(64) + "g:1\n", strings.Repeat("x", 2001), "A:" + strings.Repeat("x", 1999),
}

// P12.2: behind Reset at any place it is as behind New.
func TestReset(t *testing.T) {
	for _, p := range places {
		for _, ended := range []bool{false, true} {
			for _, b := range places {
				h := reader(t, 2000)
				for _, v := range []byte(p) {
					h.Put(v)
				}
				if ended {
					h.End()
				}
				h.Reset()
				wantNone(t, p, h)
				follow(t, h, b, slowly(b, 2000))
				h.Reset()
				h.Reset()
				follow(t, h, p, slowly(p, 2000))
			}
		}
	}
}

// P12.2: a reader that begins anew may have as many bytes as before, no more and no fewer.
func TestResetKeepsMost(t *testing.T) {
	for _, most := range []int{1, 5, 65536} {
		h := reader(t, most)
		exact := "A:" + strings.Repeat("x", max(0, most-2))
		for range 3 {
			follow(t, h, exact[:min(most, len(exact))], slowly(exact[:min(most, len(exact))], most))
			h.Reset()
			follow(t, h, exact+"yz", slowly(exact+"yz", most))
			h.Reset()
		}
	}
}

// P12.2: what Fields told stays as it was, whatever becomes of the reader.
func TestFieldsStay(t *testing.T) {
	h := reader(t, 99)
	put := func(b string) {
		for _, v := range []byte(b) {
			h.Put(v)
		}
	}
	put("Abc: one\r\n two\r\nD: e\n\n")
	first := h.Fields()
	h.Reset()
	put("Xyz: ten\r\n six\r\nQ: r\n\n")
	second := h.Fields()
	h.Reset()
	put("no field\n")
	if !slices.Equal(first, pairs("Abc", "one two", "D", "e")) || !slices.Equal(second, pairs("Xyz", "ten six", "Q", "r")) {
		t.Errorf("%q %q", first, second)
	}
}

// P12.3: how many bytes were put in, where it is done, stopped and ended.
func TestWhole(t *testing.T) {
	want(t, "A: 1\n\nmore\n", 99, pairs("A", "1"), 6, api.None)
	want(t, "A: 1\nmore\nB: 2\n", 99, nil, 10, api.BadField)
	want(t, "A: 1\nmore", 99, nil, 9, api.BadField)
	want(t, "A: 1\nmore", 8, nil, 9, api.BigHeader)
	want(t, "A: 1\nmore and more", 8, nil, 9, api.BigHeader)
	want(t, "A: 1\nB: 2", 99, pairs("A", "1", "B", "2"), 9, api.None)
	want(t, "A: 1\nB: 2", 9, pairs("A", "1", "B", "2"), 9, api.None)
	if f, used, why, e := header.Whole(nil, 1); len(f) != 0 || used != 0 || why != api.None || e != api.OK {
		t.Error(f, used, why, e)
	}
}

// P12.5: lines that end with 10 alone, with 13 and 10, or by turns, say the same.
func TestEndsSayTheSame(t *testing.T) {
	lines := []string{"A: 1", " 2", "\t", "b:", "C:d:e ", " \t f", "", "body"}
	wanted := pairs("A", "1 2", "b", "", "C", "d:e  \t f")
	for mask := range 1 << len(lines) {
		var b strings.Builder
		used := 0
		for i, line := range lines {
			b.WriteString(line)
			if mask>>i&1 != 0 {
				b.WriteString("\r")
			}
			b.WriteString("\n")
			if line == "" {
				used = b.Len()
			}
		}
		want(t, b.String(), 99, wanted, used, api.None)
	}
}

// P12.5: a value that is broken ahead of blanks, in any of its ways, is the same value.
func TestBrokenValues(t *testing.T) {
	for _, value := range []string{" 1 2", "1 2\t3", " \t1  2 ", "  ", "a: b c:d", " \u00e4 \xff \x00 :"} {
		var blanks []int
		for i := range len(value) {
			if value[i] == ' ' || value[i] == '\t' {
				blanks = append(blanks, i)
			}
		}
		for mask := range 1 << len(blanks) {
			for _, end := range []string{"\n", "\r\n"} {
				var b strings.Builder
				b.WriteString("x: y" + end + "A:")
				for i := range len(value) {
					if k := slices.Index(blanks, i); k >= 0 && mask>>k&1 != 0 {
						b.WriteString(end)
					}
					b.WriteByte(value[i])
				}
				b.WriteString(end + "z:" + end + end)
				want(t, b.String(), 99, pairs("x", "y", "A", strings.Trim(value, " \t"), "z", ""), b.Len(), api.None)
			}
		}
	}
}

// rows goes through all rows of up to n marks.
func rows(n int, marks string, do func(b string)) {
	var walk func(b string, left int)
	walk = func(b string, left int) {
		do(b)
		if left == 0 {
			return
		}
		for i := range len(marks) {
			walk(b+marks[i:i+1], left-1)
		}
	}
	walk("", n)
}

// P12.1 to P12.3: all short rows of a name's byte, a colon, both blanks, 13, 10 and a byte of no name, held against the slow one.
func TestEveryShortRow(t *testing.T) {
	h := reader(t, 5)
	rows(6, "x: \r\n\xff", func(b string) {
		a := slowly(b, 5)
		h.Reset()
		follow(t, h, b, a)
		holdWhole(t, b, 5, a)
	})
	rows(5, "x:\t\r\n", func(b string) {
		hold(t, b, 99)
		hold(t, "A: 1\r\n"+b, 11)
	})
}

// P12.1 to P12.3: rows behind as many fields as there may be, or nearly, held against the slow one.
func TestShortRowsBehindManyFields(t *testing.T) {
	for _, n := range []int{63, 64} {
		ahead := strings.Repeat("f:\n", n)
		rows(4, "x: \r\n", func(b string) { hold(t, ahead+b, 999) })
	}
}

// P12.1 to P12.3: lines by chance, held against the slow one.
func TestByChance(t *testing.T) {
	r := rand.New(rand.NewSource(12))
	pieces := []string{"A: 1", "Subject:", "b:c", "x", ":", " ", "\t", " go on", "\r", "\xff", "From me", "\u00e4", "X-1~: \t2 \t"}
	ends := []string{"\n", "\r\n", "\n", "\r\n", "\r\r\n", ""}
	for range 20000 {
		var b strings.Builder
		for range r.Intn(9) {
			k := len(pieces)
			if r.Intn(3) > 0 {
				k = 3
			}
			b.WriteString(pieces[r.Intn(k)])
			b.WriteString(ends[r.Intn(len(ends))])
			if r.Intn(4) == 0 {
				b.WriteString(" more" + ends[r.Intn(4)])
			}
		}
		if r.Intn(2) == 0 {
			b.WriteString(ends[r.Intn(4)])
		}
		hold(t, b.String(), 1+r.Intn(80))
	}
}

// P12.1 to P12.4: a mail's fields are those that the library finds.
func TestMail(t *testing.T) {
	const text = "Received: from a.example\r\n by b.example\r\nFrom: A <a@a.example>\r\nTo:b@b.example\r\nContent-Type: multipart/mixed;\r\n\tboundary=\"x: y\"\r\nSubject: \r\n\r\nText: none\r\n"
	m, err := mail.ReadMessage(strings.NewReader(text))
	if err != nil {
		t.Fatal(err)
	}
	f, used, why, e := header.Whole([]byte(text), 65536)
	if used != strings.Index(text, "Text") || why != api.None || e != api.OK || len(f) != len(m.Header) {
		t.Fatal(f, used, why, e)
	}
	for name := range m.Header {
		v, ok := header.Get(f, strings.ToUpper(name))
		if strings.ReplaceAll(v, "\t", " ") != m.Header.Get(name) || !ok {
			t.Errorf("%s: %q %t, not %q", name, v, ok, m.Header.Get(name))
		}
	}
}

// Rule 1: a method of a nil reader answers zero values and does nothing.
func TestNil(t *testing.T) {
	var h *header.Reader
	for i := range 256 {
		wantPut(t, "nil", h, byte(i), false, api.None)
	}
	if w := h.End(); w != api.None {
		t.Error(w)
	}
	h.Reset()
	wantNone(t, "nil", h)
	wantPut(t, "nil", h, '\n', false, api.None)
}

// Rule 3: what was handed in is as it was, its spare room too, and is not kept; what was answered may be changed.
func TestMemory(t *testing.T) {
	const text = "A: 1 \r\n 2\r\nb:\n\nx"
	for n := range len(text) + 1 {
		room := []byte(text)
		a := slowly(text[:n], 99)
		one, used, why, _ := header.Whole(room[:n], 99)
		if string(room) != text {
			t.Fatalf("%d: changed to %q", n, room)
		}
		clear(room)
		if !slices.Equal(one, a.fields) || used != a.used || why != a.why {
			t.Fatalf("%d: %q %d %d, not %q %d %d", n, one, used, why, a.fields, a.used, a.why)
		}
		one = one[:cap(one)]
		for i := range one {
			one[i].Name, one[i].Value = "changed", "changed"
		}
		holdWhole(t, text[:n], 99, a)
	}
}

// Rule 4: two readers have nothing in common.
func TestTwoByTurns(t *testing.T) {
	for _, x := range places {
		for _, y := range places {
			one, two := reader(t, 2000), reader(t, 1999)
			for i := range max(len(x), len(y)) {
				if i < len(x) {
					one.Put(x[i])
				}
				if i < len(y) {
					two.Put(y[i])
				}
			}
			a, b := slowly(x, 2000), slowly(y, 1999)
			if w := one.End(); w != a.why {
				t.Fatalf("%q: End = %d, not %d", short(x), w, a.why)
			}
			if w := two.End(); w != b.why {
				t.Fatalf("%q: End = %d, not %d", short(y), w, b.why)
			}
			wantOver(t, x, one, a.fields, a.why)
			two.Reset()
			wantOver(t, x, one, a.fields, a.why)
			follow(t, two, y, b)
		}
	}
}
