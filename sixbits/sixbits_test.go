package sixbits_test

import (
	"bytes"
	"encoding/base64"
	"math"
	"math/rand"
	"slices"
	"strings"
	"testing"

	"winkle/api"
	"winkle/sixbits"
)

// places are bytes that lead to each place of a group, of a first and of a later one, behind one =, behind two, and behind the last group.
var places = []string{
	"", "Y", "YW", "YWJ", "YWI=", "YQ=", "YQ==",
	"YWJj", "YWJjZ", "YWJjZG", "YWJjZGV", "YWJjZGVm", "YWJjZGU=", "YWJjZA=", "YWJjZA==",
}

// spread lays blanks ahead of, between and behind all bytes.
func spread(b, between string) []byte {
	out := between
	for _, v := range []byte(b) {
		out += string([]byte{v}) + between
	}
	return []byte(out)
}

// want holds Whole's answer against what is wanted.
func want(t *testing.T, b, out string, why api.Reason, at int) {
	t.Helper()
	if o, w, n := sixbits.Whole([]byte(b)); string(o) != out || w != why || n != at {
		t.Errorf("Whole(%q) = %q %d %d, not %q %d %d", b, o, w, n, out, why, at)
	}
}

// The chapter's examples.
func TestExamples(t *testing.T) {
	want(t, "YWJj", "abc", api.None, 4)
	want(t, "YW J\nj", "abc", api.None, 6)
	want(t, "YW J\r\nj", "abc", api.None, 7)
	want(t, "YQ==", "a", api.None, 4)
	want(t, "YWI=", "ab", api.None, 4)
	want(t, "YW=j", "a", api.BadPad, 3)
	want(t, "Y=", "", api.BadPad, 1)
	want(t, "YQ==Y", "a", api.BadPad, 4)
	want(t, "Y", "", api.Cut, 1)
	want(t, "Y.", "", api.BadStray, 1)
	if w := sixbits.Write([]byte("abc"), 0); string(w) != "YWJj" {
		t.Errorf("%q", w)
	}
	if w := sixbits.Write([]byte("abcd"), 4); string(w) != "YWJj\r\nZA==" {
		t.Errorf("%q", w)
	}
	d := sixbits.New()
	wantPut(t, "example 3", d, 'Y', 0, false, api.None)
	wantPut(t, "example 3", d, 'W', 'a', true, api.None)
}

// P10.1: each of the 64 letters at each of a group's places: its bits, highest first.
func TestEveryLetterSaysItsBits(t *testing.T) {
	for i := range 64 {
		v, c := byte(i), said[i]
		want(t, string([]byte{c, 'A', 'A', 'A'}), string([]byte{v << 2, 0, 0}), api.None, 4)
		want(t, string([]byte{'A', c, 'A', 'A'}), string([]byte{v >> 4, v << 4, 0}), api.None, 4)
		want(t, string([]byte{'A', 'A', c, 'A'}), string([]byte{0, v >> 2, v << 6}), api.None, 4)
		want(t, string([]byte{'A', 'A', 'A', c}), string([]byte{0, 0, v}), api.None, 4)
		want(t, string([]byte{'/', '/', '/', c}), string([]byte{255, 255, 192 | v}), api.None, 4)
	}
}

// P10.1: each byte is told with the letter with which it is known.
func TestKnownWith(t *testing.T) {
	for _, between := range []string{"", " ", "\t\t\r\n\r\n"} {
		d := sixbits.New()
		for range 3 {
			for _, x := range []struct {
				b, out byte
				has    bool
			}{{'Y', 0, false}, {'W', 'a', true}, {'J', 'b', true}, {'j', 'c', true}} {
				wantPut(t, "known with", d, x.b, x.out, x.has, api.None)
				for _, v := range []byte(between) {
					wantPut(t, "a blank", d, v, 0, false, api.None)
				}
			}
		}
		// The bits that are left over are told neither with the = nor at the end.
		wantPut(t, "first", d, 'Y', 0, false, api.None)
		wantPut(t, "second", d, 'f', 'a', true, api.None)
		wantPut(t, "third", d, '=', 0, false, api.None)
		wantPut(t, "fourth", d, '=', 0, false, api.None)
		wantEnd(t, "the end", d, api.None)
	}
}

// P10.1: a byte 0 that is known is told as such.
func TestNoughtIsKnown(t *testing.T) {
	d := sixbits.New()
	wantPut(t, "first", d, 'A', 0, false, api.None)
	for _, note := range []string{"second", "third", "fourth"} {
		wantPut(t, note, d, 'A', 0, true, api.None)
	}
	wantPut(t, "fifth", d, 'A', 0, false, api.None)
	wantEnd(t, "a group of bits 0 was begun", d, api.Cut)
}

// stops are what a letter, an = and another byte tell at each of the places.
var stops = []struct {
	ahead              string
	letter, pad, other api.Reason
}{
	{"", api.None, api.BadPad, api.BadStray},
	{"Y", api.None, api.BadPad, api.BadStray},
	{"YW", api.None, api.None, api.BadStray},
	{"YWJ", api.None, api.None, api.BadStray},
	{"YWJj", api.None, api.BadPad, api.BadStray},
	{"YWJjY", api.None, api.BadPad, api.BadStray},
	{"YWJjYW", api.None, api.None, api.BadStray},
	{"YWJjYWJ", api.None, api.None, api.BadStray},
	{"YQ=", api.BadPad, api.None, api.BadPad},
	{"YQ==", api.BadPad, api.BadPad, api.BadPad},
	{"YWI=", api.BadPad, api.BadPad, api.BadPad},
	{"YWJjYQ=", api.BadPad, api.None, api.BadPad},
	{"YWJjYQ==", api.BadPad, api.BadPad, api.BadPad},
	{"YWJjYWI=", api.BadPad, api.BadPad, api.BadPad},
}

// P10.1: every byte at every place, with and without blanks ahead of it; and again and again behind a stop.
func TestEveryByteAtEveryPlace(t *testing.T) {
	for _, x := range stops {
		for _, ahead := range [][]byte{[]byte(x.ahead), spread(x.ahead, " "), spread(x.ahead, "\r\n\t ")} {
			for i := range 256 {
				v := byte(i)
				why := x.other
				switch {
				case strings.IndexByte(blanks, v) >= 0:
					why = api.None
				case strings.IndexByte(said, v) >= 0:
					why = x.letter
				case v == '=':
					why = x.pad
				}
				d := sixbits.New()
				for _, a := range ahead {
					if _, _, w := d.Put(a); w != api.None {
						t.Fatalf("%q: %d", ahead, w)
					}
				}
				if _, _, w := d.Put(v); w != why {
					t.Fatalf("%q: Put(%d) = %d, not %d", ahead, v, w, why)
				}
				if why != api.None {
					wantStopped(t, string(ahead), d, why)
				}
				hold(t, append(slices.Clone(ahead), v))
			}
		}
	}
}

// P10.1, P10.3: = at every place, one to three of them, and with blanks between.
func TestPads(t *testing.T) {
	for _, x := range []struct {
		b, out string
		why    api.Reason
		at     int
	}{
		{"=", "", api.BadPad, 0}, {"==", "", api.BadPad, 0}, {"===", "", api.BadPad, 0}, {" =", "", api.BadPad, 1},
		{"Y=", "", api.BadPad, 1}, {"Y==", "", api.BadPad, 1}, {"Y===", "", api.BadPad, 1}, {"Y =", "", api.BadPad, 2},
		{"YQ=", "a", api.Cut, 3}, {"YQ==", "a", api.None, 4}, {"YQ===", "a", api.BadPad, 4},
		{"YQ= ", "a", api.Cut, 4}, {"YQ = =", "a", api.None, 6}, {"YQ = = ", "a", api.None, 7}, {"YQ = = =", "a", api.BadPad, 7},
		{"YWI=", "ab", api.None, 4}, {"YWI==", "ab", api.BadPad, 4}, {"YWI===", "ab", api.BadPad, 4}, {"YWI = =", "ab", api.BadPad, 6},
		{"YWJj=", "abc", api.BadPad, 4}, {"YWJj==", "abc", api.BadPad, 4}, {"YWJj =", "abc", api.BadPad, 5}, {"YWJjY=", "abc", api.BadPad, 5},
		{"YQ=Q", "a", api.BadPad, 3}, {"YQ=\r\nQ", "a", api.BadPad, 5}, {"YQ=.", "a", api.BadPad, 3}, {"YQ=\x00", "a", api.BadPad, 3},
		{"YQ==YQ==", "a", api.BadPad, 4}, {"YQ== YQ==", "a", api.BadPad, 5}, {"YQ==.", "a", api.BadPad, 4}, {"YQ==\xff", "a", api.BadPad, 4},
		{"YWI=YWI=", "ab", api.BadPad, 4}, {"YWI=\nYWI=", "ab", api.BadPad, 5}, {"YWI=.", "ab", api.BadPad, 4},
		{"YWJjYWI=", "abcab", api.None, 8}, {"YWJjYQ==", "abca", api.None, 8}, {"YWJjYQ=", "abca", api.Cut, 7},
	} {
		want(t, x.b, x.out, x.why, x.at)
		hold(t, []byte(x.b))
	}
}

// P10.1: strays at every place; where a pad is wrong, too, that is told.
func TestStrays(t *testing.T) {
	want(t, ".", "", api.BadStray, 0)
	want(t, "Y-", "", api.BadStray, 1)
	want(t, "YW_", "a", api.BadStray, 2)
	want(t, "YWJ*", "ab", api.BadStray, 3)
	want(t, "YWJj\x00", "abc", api.BadStray, 4)
	want(t, "YWJj \x0b", "abc", api.BadStray, 5)
	want(t, "YWJj\x0c", "abc", api.BadStray, 4)
	want(t, "YWJj\xa0", "abc", api.BadStray, 4)
	want(t, "YWJj\xd9", "abc", api.BadStray, 4)
	want(t, ".=", "", api.BadStray, 0)
	want(t, "=.", "", api.BadPad, 0)
}

// P10.1: the bits that are left over mean nothing.
func TestLeftOver(t *testing.T) {
	for i := range 64 {
		c := string(said[i])
		want(t, "Y"+c+"==", string([]byte{24<<2 | byte(i)>>4}), api.None, 4)
		want(t, "YW"+c+"=", string([]byte{'a', 6<<4 | byte(i)>>2}), api.None, 4)
	}
}

// P10.1, P10.5: each blank, and many of them, at every place.
func TestBlanks(t *testing.T) {
	for _, between := range []string{"\t", "\n", "\r", " ", "\r\n", " \t\r\n", strings.Repeat(" ", 1000), strings.Repeat("\n\r\t ", 300)} {
		want(t, between, "", api.None, len(between))
		for _, p := range places {
			out, why, _ := sixbits.Whole([]byte(p))
			b := string(spread(p, between))
			want(t, b, string(out), why, len(b))
			hold(t, []byte(p+between))
		}
	}
}

// P10.1 to P10.3: all short rows of a letter, other letters, an =, blanks and a stray, held against the slow one.
func TestEveryShortRow(t *testing.T) {
	const marks = "Y/= \n."
	d := sixbits.New()
	var b []byte
	var walk func(left int)
	walk = func(left int) {
		a := slowly(b)
		d.Reset()
		follow(t, d, b, a)
		wantEnd(t, string(b), d, a.end())
		holdWhole(t, b, a)
		if left == 0 {
			return
		}
		for _, v := range []byte(marks) {
			b = append(b, v)
			walk(left - 1)
			b = b[:len(b)-1]
		}
	}
	walk(7)
}

// P10.2: End at every place, twice, and what may be put in behind it.
func TestEnd(t *testing.T) {
	for _, p := range places {
		for _, behind := range []string{"", " ", "\r\n\t"} {
			b := []byte(p + behind)
			a := slowly(b)
			whole := strings.HasSuffix(p, "==") || len(p)%4 == 0
			if (a.end() == api.None) != whole || a.why != api.None {
				t.Fatalf("%q: %d %d", b, a.why, a.end())
			}
			d := sixbits.New()
			follow(t, d, b, a)
			if !whole {
				wantEnd(t, string(b), d, api.Cut)
				wantStopped(t, string(b), d, api.Cut)
				continue
			}
			wantEnd(t, string(b), d, api.None)
			// Nothing has changed: it goes on as if End had not been called.
			for _, more := range []string{"YWJj", "=", ".", " \r\nYQ==", "YQ", "Y="} {
				e := sixbits.New()
				follow(t, e, b, a)
				wantEnd(t, string(b), e, api.None)
				both := slowly([]byte(string(b) + more))
				for i, v := range []byte(more) {
					out, has, why := byte(0), false, api.None
					if at := slices.Index(both.known, len(b)+i); at >= 0 {
						out, has = both.out[at], true
					}
					if both.why != api.None && len(b)+i >= both.at {
						why = both.why
					}
					wantPut(t, string(b)+" "+more, e, v, out, has, why)
				}
				wantEnd(t, string(b)+" "+more, e, both.end())
			}
		}
	}
}

// P10.2: End where each kind of byte has stopped it tells that, not Cut.
func TestEndTellsTheFirstReason(t *testing.T) {
	for _, x := range []struct {
		b   string
		why api.Reason
	}{{"=", api.BadPad}, {"Y=", api.BadPad}, {"YQ=Y", api.BadPad}, {"YQ=.", api.BadPad}, {"YQ===", api.BadPad}, {".", api.BadStray}, {"Y.", api.BadStray}, {"YW.", api.BadStray}, {"YWJ.", api.BadStray}} {
		d := sixbits.New()
		for _, v := range []byte(x.b) {
			d.Put(v)
		}
		wantEnd(t, x.b, d, x.why)
		wantStopped(t, x.b, d, x.why)
	}
}

// P10.2: behind Reset at any place, of a stopped or an ended one too, it is as behind New.
func TestReset(t *testing.T) {
	rows := append(slices.Clone(places), "=", "Y=", "YQ=Y", "YQ===", "YWI==", ".", "Y.", "YW.", "YWJ.", " ", "////", "///", "//", "/")
	for _, ahead := range rows {
		for _, ended := range []bool{false, true} {
			for _, p := range rows {
				d := sixbits.New()
				for _, v := range []byte(ahead) {
					d.Put(v)
				}
				if ended {
					d.End()
				}
				d.Reset()
				a := slowly([]byte(p))
				follow(t, d, []byte(p), a)
				wantEnd(t, ahead+", anew "+p, d, a.end())
			}
			d := sixbits.New()
			for _, v := range []byte(ahead) {
				d.Put(v)
			}
			d.Reset()
			d.Reset()
			wantEnd(t, ahead+", anew", d, api.None)
		}
	}
}

// P10.3: where the byte stands that stopped it: the first, a middle and the last one; and none.
func TestWhole(t *testing.T) {
	want(t, "", "", api.None, 0)
	want(t, " ", "", api.None, 1)
	want(t, "!YWJj", "", api.BadStray, 0)
	want(t, "YWJj!YWJj", "abc", api.BadStray, 4)
	want(t, "YWJjYWJj!", "abcabc", api.BadStray, 8)
	want(t, "YWJjYWJj", "abcabc", api.None, 8)
	want(t, "YWJjYWJj \r\n ", "abcabc", api.None, 12)
	want(t, "YWJjY \r\n ", "abc", api.Cut, 9)
	want(t, "YQ== \r\n !", "a", api.BadPad, 8)
	want(t, "YQ==!!!", "a", api.BadPad, 4)
	if out, why, at := sixbits.Whole(nil); len(out) != 0 || why != api.None || at != 0 {
		t.Error(out, why, at)
	}
	for _, p := range places {
		hold(t, []byte(p))
	}
}

// written is what bytes are in base64, in lines, by the library.
func written(b []byte, line int) string {
	all := base64.StdEncoding.EncodeToString(b)
	if line <= 0 {
		return all
	}
	var rows []string
	for i := 0; i < len(all); i += min(line, len(all)-i) {
		rows = append(rows, all[i:i+min(line, len(all)-i)])
	}
	return strings.Join(rows, "\r\n")
}

// wantWritten holds Write's answer against what is wanted.
func wantWritten(t *testing.T, b string, line int, text string) {
	t.Helper()
	in := []byte(b)
	if w := sixbits.Write(in, line); string(w) != text {
		t.Errorf("Write(%q, %d) = %q, not %q", b, line, w, text)
	}
	if string(in) != b {
		t.Errorf("Write changed %q to %q", b, in)
	}
}

// P10.4: groups, and the last one filled up.
func TestWriteGroups(t *testing.T) {
	for _, line := range []int{0, -1, -4, math.MinInt, 76, math.MaxInt} {
		wantWritten(t, "", line, "")
		wantWritten(t, "a", line, "YQ==")
		wantWritten(t, "ab", line, "YWI=")
		wantWritten(t, "abc", line, "YWJj")
		wantWritten(t, "abcd", line, "YWJjZA==")
		wantWritten(t, "abcde", line, "YWJjZGU=")
		wantWritten(t, "\x00", line, "AA==")
		wantWritten(t, "\x00\x00", line, "AAA=")
		wantWritten(t, "\xff", line, "/w==")
		wantWritten(t, "\xff\xff", line, "//8=")
		wantWritten(t, "\xfb\xef\xbe", line, "++++")
	}
	if w := sixbits.Write(nil, 1); len(w) != 0 {
		t.Error(w)
	}
}

// P10.4: a line's end stands between the lines, and behind the last one none.
func TestWriteLines(t *testing.T) {
	wantWritten(t, "", 1, "")
	wantWritten(t, "", 4, "")
	wantWritten(t, "a", 1, "Y\r\nQ\r\n=\r\n=")
	wantWritten(t, "ab", 1, "Y\r\nW\r\nI\r\n=")
	wantWritten(t, "ab", 2, "YW\r\nI=")
	wantWritten(t, "ab", 3, "YWI\r\n=")
	wantWritten(t, "ab", 4, "YWI=")
	wantWritten(t, "ab", 5, "YWI=")
	wantWritten(t, "abcdef", 4, "YWJj\r\nZGVm")
	wantWritten(t, "abcdef", 5, "YWJjZ\r\nGVm")
	wantWritten(t, "abcdef", 7, "YWJjZGV\r\nm")
	wantWritten(t, "abcdef", 8, "YWJjZGVm")
	wantWritten(t, "abcdef", 9, "YWJjZGVm")
}

// P10.4, P10.5: bytes of many lengths in lines of many lengths, written and read back.
func TestWriteAndBack(t *testing.T) {
	dice := rand.New(rand.NewSource(10))
	for n := range 200 {
		b := make([]byte, n)
		dice.Read(b)
		all := (n + 2) / 3 * 4
		for _, line := range []int{math.MinInt, -1, 0, 1, 2, 3, 4, 5, 6, 7, 75, 76, 77, n, all - 1, all, all + 1, math.MaxInt} {
			wantWritten(t, string(b), line, written(b, line))
			w := sixbits.Write(b, line)
			want(t, string(w), string(b), api.None, len(w))
		}
	}
}

// P10.5: every one and every two bytes, written and read back.
func TestEveryTwoBytes(t *testing.T) {
	for i := range 256 {
		one := []byte{byte(i)}
		if out, why, at := sixbits.Whole(sixbits.Write(one, 0)); !bytes.Equal(out, one) || why != api.None || at != 4 {
			t.Fatal(one, out, why, at)
		}
		for j := range 256 {
			two := []byte{byte(i), byte(j)}
			if out, why, at := sixbits.Whole(sixbits.Write(two, 0)); !bytes.Equal(out, two) || why != api.None || at != 4 {
				t.Fatal(two, out, why, at)
			}
		}
	}
}

// P10.5: many bytes, with blanks laid in anywhere.
func TestBlanksLaidInAnywhere(t *testing.T) {
	dice := rand.New(rand.NewSource(105))
	for range 300 {
		b := make([]byte, dice.Intn(3000))
		dice.Read(b)
		var laid []byte
		for _, v := range sixbits.Write(b, dice.Intn(100)) {
			for dice.Intn(4) == 0 {
				laid = append(laid, blanks[dice.Intn(len(blanks))])
			}
			laid = append(laid, v)
		}
		want(t, string(laid), string(b), api.None, len(laid))
	}
}

// P10.1 to P10.3: rows of any bytes, mostly of what base64 is made of, held against the slow one and the library.
func TestAnyRows(t *testing.T) {
	dice := rand.New(rand.NewSource(101))
	for range 20000 {
		b := make([]byte, dice.Intn(30))
		for i := range b {
			switch n := dice.Intn(40); {
			case n < 2:
				b[i] = '='
			case n < 4:
				b[i] = blanks[dice.Intn(len(blanks))]
			case n == 4:
				b[i] = byte(dice.Intn(256))
			default:
				b[i] = said[dice.Intn(64)]
			}
		}
		if dice.Intn(2) == 0 {
			b = append(b, "=="[dice.Intn(2):]...)
		}
		a := slowly(b)
		d := sixbits.New()
		follow(t, d, b, a)
		wantEnd(t, string(b), d, a.end())
		holdWhole(t, b, a)
		bare := strings.Map(func(r rune) rune {
			if strings.ContainsRune(blanks, r) {
				return -1
			}
			return r
		}, string(b))
		out, err := base64.StdEncoding.DecodeString(bare)
		if (err == nil) != (a.end() == api.None) || err == nil && !bytes.Equal(out, a.out) {
			t.Fatalf("%q: the library has %q, %v", b, out, err)
		}
	}
}

// Rule 4: two decoders by turns have nothing in common.
func TestTwoByTurns(t *testing.T) {
	d, e := sixbits.New(), sixbits.New()
	if d == e {
		t.Fatal("one decoder twice")
	}
	wantPut(t, "d", d, 'Y', 0, false, api.None)
	wantPut(t, "e", e, '/', 0, false, api.None)
	wantPut(t, "d", d, 'W', 'a', true, api.None)
	wantPut(t, "e", e, '/', 255, true, api.None)
	wantPut(t, "d", d, '=', 0, false, api.None)
	wantPut(t, "e", e, '/', 255, true, api.None)
	wantPut(t, "d", d, '=', 0, false, api.None)
	wantPut(t, "e", e, '/', 255, true, api.None)
	wantPut(t, "d", d, '.', 0, false, api.BadPad)
	wantPut(t, "e", e, '.', 0, false, api.BadStray)
	wantEnd(t, "d", d, api.BadPad)
	wantEnd(t, "e", e, api.BadStray)
	e.Reset()
	wantEnd(t, "d", d, api.BadPad)
	wantEnd(t, "e", e, api.None)
	wantPut(t, "e", e, 'Y', 0, false, api.None)
	sixbits.Whole([]byte("Y="))
	sixbits.Write([]byte("abc"), 1)
	wantPut(t, "e", e, 'W', 'a', true, api.None)
}

// Rule 1: a nil decoder.
func TestNil(t *testing.T) {
	var d *sixbits.Decoder
	for i := range 256 {
		wantPut(t, "nil", d, byte(i), 0, false, api.None)
	}
	wantEnd(t, "nil", d, api.None)
	d.Reset()
	wantEnd(t, "nil", d, api.None)
}

// Rule 3: what was handed in is as it was, and what was answered may be changed.
func TestMemory(t *testing.T) {
	text := []byte("YWJjZGVm YQ==")
	first, _, _ := sixbits.Whole(text)
	second, _, _ := sixbits.Whole(text)
	first = first[:cap(first)]
	for i := range first {
		first[i] = 'x'
	}
	if string(second) != "abcdefa" || string(text) != "YWJjZGVm YQ==" {
		t.Errorf("%q %q", second, text)
	}
	want(t, string(text), "abcdefa", api.None, 13)
	for _, line := range []int{0, 3, 4, 99} {
		room := []byte("abcde behind")
		one, other := sixbits.Write(room[:5], line), sixbits.Write(room[:5], line)
		was := string(other)
		one = one[:cap(one)]
		for i := range one {
			one[i] = 'x'
		}
		if string(other) != was || string(room) != "abcde behind" {
			t.Errorf("%q %q", other, room)
		}
		wantWritten(t, "abcde", line, was)
	}
}
