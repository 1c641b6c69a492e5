package quoted_test

import (
	"bytes"
	"io"
	"math/rand"
	"mime/quotedprintable"
	"regexp"
	"slices"
	"strings"
	"testing"

	"winkle/api"
	"winkle/quoted"
)

// want holds Whole's answer, and the slow one's, against what is wanted, and the decoder against the slow one.
func want(t *testing.T, b, out string, why api.Reason, at int) {
	t.Helper()
	if o, w, n := quoted.Whole([]byte(b)); string(o) != out || w != why || n != at {
		t.Errorf("Whole(%q) = %q %d %d, not %q %d %d", b, o, w, n, out, why, at)
	}
	if a := slowly([]byte(b)); string(a.out) != out || a.why != why || a.at != at {
		t.Fatalf("%q: the slow one tells %q %d %d, not %q %d %d", b, a.out, a.why, a.at, out, why, at)
	}
	hold(t, []byte(b))
}

// says is want of a text that is not stopped.
func says(t *testing.T, b, out string) {
	t.Helper()
	want(t, b, out, api.None, len(b))
}

// The chapter's examples.
func TestExamples(t *testing.T) {
	want(t, "a=3Db", "a=b", api.None, 5)
	want(t, "a =\r\nb", "a b", api.None, 6)
	want(t, "a \t\nb ", "a\nb", api.None, 6)
	want(t, "=4", "", api.Cut, 2)
	want(t, "a=x", "a", api.BadEscape, 2)
	want(t, "=4x", "", api.BadEscape, 2)
	want(t, "\ra", "\ra", api.None, 2)
	want(t, "a=", "a", api.None, 2)
	want(t, "=\ra", "", api.BadEscape, 2)
	if w := quoted.Write([]byte("a=b "), 76); string(w) != "a=3Db=20" {
		t.Errorf("%q", w)
	}
	if w := quoted.Write([]byte("abcdef"), 4); string(w) != "abc=\r\ndef" {
		t.Errorf("%q", w)
	}
}

// ahead are texts behind each of which something else was begun.
var ahead = []string{
	"", "a", "=", "=4", "=a", "=F", "=\r", " ", "\t", " \t", "\r", " \r", "\t \r", "\r\r", "\n", "\r\n", "=\n", "=\r\n", "=41", " =", " =\r", "\r=", "\r=\r", " \r ",
	strings.Repeat(" ", 63), strings.Repeat("\t", 64), strings.Repeat(" ", 65), strings.Repeat("\t", 64) + "\r", strings.Repeat(" ", 65) + "\r", strings.Repeat(" ", 64) + "=",
}

// P11.1 to P11.3: every byte alone, and behind all that may be begun; and one byte more behind it.
func TestEveryByteBehindAll(t *testing.T) {
	for _, p := range ahead {
		for i := range 256 {
			b := append([]byte(p), byte(i))
			hold(t, b)
			for _, v := range []byte("a=4 \r\n") {
				hold(t, append(slices.Clone(b), v))
			}
		}
	}
}

// P11.3: every byte alone.
func TestEveryByteAlone(t *testing.T) {
	for i := range 256 {
		switch b := string([]byte{byte(i)}); b {
		case " ", "\t", "=":
			says(t, b, "")
		default:
			says(t, b, b)
		}
	}
}

// P11.3: every byte behind a blank, behind a 13, behind an =, and behind an = and a 13.
func TestEveryByteBehindOne(t *testing.T) {
	for i := range 256 {
		b := string([]byte{byte(i)})
		blank, back, equals, soft := " "+b, "\r"+b, api.BadEscape, api.BadEscape
		digit := "0" <= b && b <= "9" || "A" <= b && b <= "F" || "a" <= b && b <= "f"
		switch {
		case b == " " || b == "\t":
			blank, back = "", "\r"
		case b == "\n":
			blank, equals, soft = "\n", api.None, api.None
		case b == "\r":
			equals = api.None
		case b == "=":
			blank, back = " ", "\r"
		case digit:
			equals = api.Cut
		}
		says(t, " "+b, blank)
		says(t, "\r"+b, back)
		for _, x := range []struct {
			ahead string
			why   api.Reason
		}{{"=", equals}, {"=\r", soft}} {
			at := len(x.ahead + b)
			if x.why == api.BadEscape {
				at--
			}
			want(t, x.ahead+b, "", x.why, at)
		}
	}
}

// P11.3: every byte behind an = and each digit, small and capital ones.
func TestEscapes(t *testing.T) {
	const all = "0123456789ABCDEFabcdef"
	for _, first := range []byte(all) {
		for i := range 256 {
			b := []byte{'=', first, byte(i)}
			second := strings.IndexByte(all, byte(i))
			if second < 0 {
				want(t, string(b), "", api.BadEscape, 2)
				continue
			}
			high, low := strings.IndexByte(all, first), second
			if high > 15 {
				high -= 6
			}
			if low > 15 {
				low -= 6
			}
			says(t, string(b), string([]byte{byte(high<<4 | low)}))
		}
		want(t, "="+string(first), "", api.Cut, 2)
		want(t, "ab="+string(first), "ab", api.Cut, 4)
	}
	says(t, "=00=ff=FF=fF=Ff=7e=20=09=0D=0A=3d=3D", "\x00\xff\xff\xff\xff~ \t\r\n==")
	says(t, "a=20\n", "a \n")
	says(t, "a =20\n", "a  \n")
	says(t, "a=0D\n", "a\r\n")
	says(t, "a =0D\n", "a \r\n")
	says(t, "a =0A", "a \n")
	says(t, "a\r=0A", "a\r\n")
	says(t, "=3D41", "=41")
}

// P11.3: an = that is neither an escape's nor a soft break's.
func TestBadEscapes(t *testing.T) {
	want(t, "==", "", api.BadEscape, 1)
	want(t, "===", "", api.BadEscape, 1)
	want(t, "a==41", "a", api.BadEscape, 2)
	want(t, "=4=", "", api.BadEscape, 2)
	want(t, "=4==", "", api.BadEscape, 2)
	want(t, "=4\n", "", api.BadEscape, 2)
	want(t, "=4\r", "", api.BadEscape, 2)
	want(t, "=4\r\n", "", api.BadEscape, 2)
	want(t, "=4 ", "", api.BadEscape, 2)
	want(t, "=G0", "", api.BadEscape, 1)
	want(t, "=0G", "", api.BadEscape, 2)
	want(t, "=g0", "", api.BadEscape, 1)
	want(t, "=/0", "", api.BadEscape, 1)
	want(t, "=:0", "", api.BadEscape, 1)
	want(t, "=@0", "", api.BadEscape, 1)
	want(t, "=`0", "", api.BadEscape, 1)
	want(t, "=0/", "", api.BadEscape, 2)
	want(t, "=0:", "", api.BadEscape, 2)
	want(t, "= \n", "", api.BadEscape, 1)
	want(t, "=\t\r\n", "", api.BadEscape, 1)
	want(t, "= ", "", api.BadEscape, 1)
	want(t, "=\r\r\n", "", api.BadEscape, 2)
	want(t, "=\r=", "", api.BadEscape, 2)
	want(t, "=\r ", "", api.BadEscape, 2)
	want(t, "=\r4", "", api.BadEscape, 2)
	want(t, " =x", " ", api.BadEscape, 2)
	want(t, "\r=x", "\r", api.BadEscape, 2)
	want(t, " \r=\rx", " \r", api.BadEscape, 4)
}

// P11.3: soft breaks by both ends of lines, first, last, between blanks, and one behind the other.
func TestSoftBreaks(t *testing.T) {
	for _, soft := range []string{"=\n", "=\r\n"} {
		says(t, soft, "")
		says(t, soft+soft, "")
		says(t, soft+soft+soft, "")
		says(t, soft+"a", "a")
		says(t, "a"+soft, "a")
		says(t, "a"+soft+"b", "ab")
		says(t, "a"+soft+soft+"b", "ab")
		says(t, "a \t"+soft+"b", "a \tb")
		says(t, "a"+soft+" \tb", "a \tb")
		says(t, "a "+soft+"\tb", "a \tb")
		says(t, "a "+soft+" ", "a ")
		says(t, "a "+soft+" \n", "a \n")
		says(t, "a "+soft+" \r\n", "a \r\n")
		says(t, "a "+soft+"\n", "a \n")
		says(t, " "+soft+" "+soft+" ", "  ")
		says(t, "\r"+soft+"\n", "\r\n")
		says(t, " \r"+soft+"\n", " \r\n")
		says(t, "a"+soft+"\n"+soft+"b", "a\nb")
		says(t, "=41"+soft+"=42", "AB")
		want(t, "="+soft, "", api.BadEscape, 1)
		want(t, "=4"+soft+"1", "", api.BadEscape, 2)
	}
	says(t, "=\n=\r\n=\n", "")
	says(t, "=\n\n", "\n")
	says(t, "=\r\n\n", "\n")
	says(t, "=\n\r\n", "\r\n")
	// The end stands for a line's end, too.
	says(t, "=", "")
	says(t, "=\r", "")
	says(t, " =", " ")
	says(t, " =\r", " ")
	says(t, "a\r=\r", "a\r")
}

// P11.3: runs of blanks of many lengths, ahead of all that may stand behind them.
func TestRunsOfBlanks(t *testing.T) {
	for _, n := range []int{0, 1, 2, 62, 63, 64, 65, 66, 127, 128, 129, 130, 200, 1000} {
		for _, kind := range []string{" ", "\t", " \t", "\t \t  "} {
			run := strings.Repeat(kind, n)[:n]
			kept := run[:max(0, n-64)]
			for _, behind := range []string{"", "\n", "\r\n", "\nb", "\r\nb", "\n\r", "\r\n\r\n"} {
				says(t, run+behind, kept+behind)
				says(t, "a"+run+behind, "a"+kept+behind)
			}
			for _, x := range []struct{ behind, out string }{
				{"\rb", "\rb"}, {"\r\r", "\r\r"}, {"\r\r\n", "\r\r\n"}, {"\r ", "\r"}, {"\r \n", "\r\n"}, {"\r", "\r"}, {"\r=\n\n", "\r\n"},
				{"=\n", ""}, {"=", ""}, {"=\r", ""}, {"=\r\n\n", "\n"}, {"=0A", "\n"}, {"b", "b"}, {"\x00", "\x00"}, {"\x0b", "\x0b"}, {"\xa0", "\xa0"},
			} {
				says(t, run+x.behind, run+x.out)
				says(t, "a"+run+x.behind, "a"+run+x.out)
			}
		}
	}
}

// P11.3: two runs of blanks are counted each by itself.
func TestRunsBehindRuns(t *testing.T) {
	for _, n := range []int{1, 63, 64, 65, 66, 129} {
		for _, m := range []int{1, 63, 64, 65, 66, 129} {
			one, two := strings.Repeat(" ", n), strings.Repeat("\t", m)
			for _, between := range []string{"\n", "\r\n", "\r", "b", "=\n", "=20", "\r\r"} {
				for _, behind := range []string{"", "\n", "\r\n", "\r", "\rb", "b", "="} {
					hold(t, []byte(one+between+two+behind))
				}
			}
			says(t, one+"\r"+two+"\n", one+"\r"+two[:max(0, m-64)]+"\n")
			says(t, one+"=\n"+two+"\n", one+two[:max(0, m-64)]+"\n")
		}
	}
}

// P11.3: 13 again and again, with and without a 10.
func TestReturns(t *testing.T) {
	for n := range 150 {
		run := strings.Repeat("\r", n)
		for _, behind := range []string{"", "\n", "a", "\na", "=", "=41"} {
			says(t, run+behind, run+strings.ReplaceAll(strings.TrimSuffix(behind, "="), "=41", "A"))
			says(t, "x"+run+behind, "x"+run+strings.ReplaceAll(strings.TrimSuffix(behind, "="), "=41", "A"))
		}
		says(t, strings.Repeat("\r\n", n), strings.Repeat("\r\n", n))
		says(t, strings.Repeat(" \r\n", n), strings.Repeat("\r\n", n))
		says(t, strings.Repeat("\n", n), strings.Repeat("\n", n))
	}
	says(t, " \r \r ", " \r \r")
	says(t, " \r \r", " \r \r")
	says(t, "\n\r", "\n\r")
	says(t, "\n\r\n", "\n\r\n")
}

// P11.1: each byte is told with the byte with which it is known, not sooner and not later.
func TestKnownWith(t *testing.T) {
	d := quoted.New()
	wantPut(t, "itself", d, 'a', "a")
	wantPut(t, "itself", d, 0, "\x00")
	wantPut(t, "itself", d, 255, "\xff")
	wantPut(t, "itself", d, '\n', "\n")
	wantPut(t, "escape", d, '=', "")
	wantPut(t, "escape", d, '4', "")
	wantPut(t, "escape", d, '1', "A")
	wantPut(t, "a byte 0", d, '=', "")
	wantPut(t, "a byte 0", d, '0', "")
	wantPut(t, "a byte 0", d, '0', "\x00")
	wantPut(t, "soft", d, '=', "")
	wantPut(t, "soft", d, '\r', "")
	wantPut(t, "soft", d, '\n', "")
	wantPut(t, "soft", d, '=', "")
	wantPut(t, "soft", d, '\n', "")
	wantPut(t, "a line's end", d, '\r', "")
	wantPut(t, "a line's end", d, '\n', "\r\n")
	wantPut(t, "13 alone", d, '\r', "")
	wantPut(t, "13 alone", d, 'a', "\ra")
	wantPut(t, "13 and 13", d, '\r', "")
	wantPut(t, "13 and 13", d, '\r', "\r")
	wantPut(t, "13 and =", d, '=', "\r")
	wantPut(t, "13 and =", d, '\n', "")
	wantPut(t, "13 and a blank", d, '\r', "")
	wantPut(t, "13 and a blank", d, ' ', "\r")
	wantPut(t, "a blank and another byte", d, '\t', "")
	wantPut(t, "a blank and another byte", d, 'b', " \tb")
	wantPut(t, "a blank and =", d, ' ', "")
	wantPut(t, "a blank and =", d, '=', " ")
	wantPut(t, "a blank and =", d, '\n', "")
	wantPut(t, "a blank and 10", d, ' ', "")
	wantPut(t, "a blank and 10", d, '\n', "\n")
	wantPut(t, "a blank, 13 and 10", d, ' ', "")
	wantPut(t, "a blank, 13 and 10", d, '\r', "")
	wantPut(t, "a blank, 13 and 10", d, '\n', "\r\n")
	wantPut(t, "a blank, 13 and another byte", d, '\t', "")
	wantPut(t, "a blank, 13 and another byte", d, '\r', "")
	wantPut(t, "a blank, 13 and another byte", d, 'x', "\t\rx")
	wantPut(t, "a blank, 13 and 13", d, ' ', "")
	wantPut(t, "a blank, 13 and 13", d, '\r', "")
	wantPut(t, "a blank, 13 and 13", d, '\r', " \r")
	wantPut(t, "a blank, 13 and 13", d, '\n', "\r\n")
	wantEnd(t, "the end", d, "", api.None)
}

// P11.1: of more than 64 blanks the first ones are known with the blanks 64 behind them.
func TestKnownWithTheBlankFarBehind(t *testing.T) {
	run := func() (*quoted.Decoder, []byte) {
		d := quoted.New()
		var b []byte
		for i := range 150 {
			b = append(b, "\t "[i/7%2])
			told := ""
			if i >= 64 {
				told = string(b[i-64 : i-63])
			}
			wantPut(t, "a blank", d, b[i], told)
		}
		return d, b[150-64:]
	}
	d, held := run()
	wantPut(t, "another byte", d, 'x', string(held)+"x")
	d, held = run()
	wantPut(t, "=", d, '=', string(held))
	d, _ = run()
	wantPut(t, "10", d, '\n', "\n")
	d, _ = run()
	wantPut(t, "13 and 10", d, '\r', "")
	wantPut(t, "13 and 10", d, '\n', "\r\n")
	d, held = run()
	wantPut(t, "13 and another byte", d, '\r', "")
	wantPut(t, "13 and another byte", d, 'x', string(held)+"\rx")
	d, held = run()
	wantPut(t, "13 and a blank", d, '\r', "")
	wantPut(t, "13 and a blank", d, '\t', string(held)+"\r")
	for range 63 {
		wantPut(t, "blanks behind", d, ' ', "")
	}
	wantPut(t, "blanks behind", d, ' ', "\t")
	d, held = run()
	wantPut(t, "13 and the end", d, '\r', "")
	wantEnd(t, "13 and the end", d, string(held)+"\r", api.None)
	d, _ = run()
	wantEnd(t, "the end", d, "", api.None)
}

// P11.1: what is told behind a byte is what all that may follow leaves as it is; but a byte 13 waits for the next one, even if no blank stands ahead of it.
func TestNothingThatFollowsChangesIt(t *testing.T) {
	waits := regexp.MustCompile("(^|[^= \t])\r$")
	follows := []string{"", "\n", "\r\n", "\rx", "x", " ", "41", "1", "=", "\r", strings.Repeat(" ", 70)}
	rows(5, "x= 4\r\n", func(b []byte) {
		d := quoted.New()
		var told []byte
		for _, v := range b {
			d.Put(v)
			for v, ok := d.Next(); ok; v, ok = d.Next() {
				told = append(told, v)
			}
		}
		if d.Reason() != api.None {
			return // what was told ahead of the stop was held against a shorter row
		}
		common := slowly([]byte(string(b) + "x")).out
		for _, f := range follows {
			other := slowly([]byte(string(b) + f)).out
			for !bytes.HasPrefix(other, common) {
				common = common[:len(common)-1]
			}
		}
		if waits.Match(b) {
			common = common[:len(common)-1]
		}
		if !bytes.Equal(told, common) {
			t.Fatalf("%q: %q was told, not %q", b, told, common)
		}
	})
}

// rows goes through all rows of up to n marks.
func rows(n int, marks string, do func(b []byte)) {
	var b []byte
	var walk func(left int)
	walk = func(left int) {
		do(b)
		if left == 0 {
			return
		}
		for _, v := range []byte(marks) {
			b = append(b, v)
			walk(left - 1)
			b = b[:len(b)-1]
		}
	}
	walk(n)
}

// P11.1 to P11.3: all short rows of a byte, an =, a blank, a digit, 13 and 10, held against the slow one.
func TestEveryShortRow(t *testing.T) {
	d := quoted.New()
	rows(6, "x= 4\r\n", func(b []byte) {
		a := slowly(b)
		d.Reset()
		follow(t, d, b, a)
		holdWhole(t, b, a)
	})
}

// P11.1: rows that begin with as many blanks as are held, or nearly, held against the slow one.
func TestShortRowsBehindManyBlanks(t *testing.T) {
	for _, n := range []int{62, 63, 64, 65} {
		run := strings.Repeat("\t ", n)[:n]
		rows(4, "x= 4\r\n", func(b []byte) { hold(t, []byte(run+string(b))) })
	}
}

// P11.1: Put of any byte while Next would tell one is refused, and nothing has changed.
func TestPutWhileNextWouldTell(t *testing.T) {
	for _, x := range []struct{ b, told string }{
		{"a", "a"}, {"=41", "A"}, {"\r\n", "\r\n"}, {"\ra", "\ra"}, {" a", " a"}, {" =", " "}, {" \r ", " \r"}, {" \r=", " \r"}, {"\r\r", "\r"}, {" \t\rx", " \t\rx"},
	} {
		for _, then := range []string{"x", "41", "\n", "\r\n", " x", "=41", " \n"} {
			d := quoted.New()
			for i, v := range []byte(x.b) {
				if !d.Put(v) {
					t.Fatalf("%q: Put of byte %d", x.b, i)
				}
			}
			for _, v := range []byte(x.told) {
				for i := range 256 {
					if d.Put(byte(i)) {
						t.Fatalf("%q: Put(%d) = true ahead of %q", x.b, i, v)
					}
				}
				d.End()
				if w := d.Reason(); w != api.None {
					t.Fatalf("%q: Reason = %d", x.b, w)
				}
				if n, ok := d.Next(); n != v || !ok {
					t.Fatalf("%q: Next = %q %t, not %q", x.b, n, ok, v)
				}
			}
			both := []byte(x.b + then)
			a := slowly(both)
			for i := len(x.b); i < len(both); i++ {
				if a.why == api.BadEscape && i > a.at {
					break
				}
				if !d.Put(both[i]) {
					t.Fatalf("%q, %q: Put of byte %d = false", x.b, then, i)
				}
				if a.why == api.BadEscape && i == a.at {
					wantOver(t, x.b+then, d, a.why)
					break
				}
				wantTold(t, x.b+then, d, a.with(i), api.None)
			}
		}
	}
}

// P11.1, P11.2: behind a stop nothing may be put in, nothing is told, and the reason stays.
func TestBehindAStop(t *testing.T) {
	for _, x := range []string{"==", "=x", "=4x", "=\rx", "= ", "a=x", " =x", "a\r=\r\r", "=4\r", "=4="} {
		d := quoted.New()
		for _, v := range []byte(x) {
			for _, ok := d.Next(); ok; _, ok = d.Next() {
			}
			if w := d.Reason(); w != api.None {
				t.Fatalf("%q: Reason = %d ahead of the stop", x, w)
			}
			d.Put(v)
		}
		for i := range 256 {
			if d.Put(byte(i)) {
				t.Fatalf("%q: Put(%d) = true", x, i)
			}
		}
		wantOver(t, x, d, api.BadEscape)
	}
}

// P11.2: End at each place: what it makes known, why, and that nothing changes behind it.
func TestEnd(t *testing.T) {
	for _, x := range []struct {
		b, told string
		why     api.Reason
	}{
		{"", "", api.None}, {"a", "", api.None}, {"=", "", api.None}, {"=\r", "", api.None}, {"=4", "", api.Cut}, {"=F", "", api.Cut}, {"=f", "", api.Cut}, {"=41", "", api.None},
		{" ", "", api.None}, {"\t", "", api.None}, {"\r", "\r", api.None}, {" \r", " \r", api.None}, {"\t \r", "\t \r", api.None}, {"\r\r", "\r", api.None}, {" \r\r", "\r", api.None},
		{" \r ", "", api.None}, {" \r \r", " \r", api.None}, {"\r\n", "", api.None}, {"\n", "", api.None}, {" =", "", api.None}, {" =\r", "", api.None}, {" =4", "", api.Cut}, {"a =\n ", "", api.None},
		{strings.Repeat(" ", 64), "", api.None}, {strings.Repeat(" ", 65), "", api.None}, {strings.Repeat(" ", 63) + "\r", strings.Repeat(" ", 63) + "\r", api.None},
		{strings.Repeat(" ", 64) + "\r", strings.Repeat(" ", 64) + "\r", api.None}, {strings.Repeat("\t", 65) + "\r", strings.Repeat("\t", 64) + "\r", api.None},
	} {
		d := quoted.New()
		for _, v := range []byte(x.b) {
			d.Put(v)
			for _, ok := d.Next(); ok; _, ok = d.Next() {
			}
		}
		wantQuiet(t, x.b, d, api.None)
		wantEnd(t, x.b, d, x.told, x.why)
		for i := range 256 {
			if d.Put(byte(i)) {
				t.Fatalf("%q: Put(%d) = true behind End", x.b, i)
			}
		}
		wantOver(t, x.b, d, x.why)
	}
}

// P11.2: Put behind End is refused ahead of what End made known, between, and behind it.
func TestPutBehindEnd(t *testing.T) {
	d := quoted.New()
	wantPut(t, "a blank", d, ' ', "")
	wantPut(t, "13", d, '\r', "")
	d.End()
	wantTold(t, "behind End", d, []byte(" \r"), api.None)
	wantOver(t, "behind End", d, api.None)
}

// P11.2: End while Next would tell a byte does nothing: more may come.
func TestEndWhileNextWouldTell(t *testing.T) {
	d := quoted.New()
	if !d.Put(' ') || !d.Put('x') {
		t.Fatal("Put")
	}
	for _, v := range []byte(" x") {
		d.End()
		d.End()
		if b, ok := d.Next(); b != v || !ok {
			t.Fatal(b, ok)
		}
	}
	wantPut(t, "more", d, '=', "")
	wantPut(t, "more", d, '4', "")
	d.End()
	wantOver(t, "the end", d, api.Cut)
}

// P11.2: behind Reset at any place it is as behind New.
func TestReset(t *testing.T) {
	places := append(slices.Clone(ahead), "=x", "=4x", "=\rx", " x", " \rx", "==", strings.Repeat(" ", 64)+"\rx", strings.Repeat("\t", 100)+"x")
	then := append(slices.Clone(places), "1", "\n", "41", " \n", "\r\n", "=41", strings.Repeat(" \t", 40)+"x")
	for _, p := range places {
		for taken := range 4 {
			for _, ended := range []bool{false, true} {
				for _, b := range then {
					d := quoted.New()
					lead(d, p)
					for range taken {
						d.Next()
					}
					if ended {
						d.End()
					}
					d.Reset()
					wantQuiet(t, p+", anew", d, api.None)
					follow(t, d, []byte(b), slowly([]byte(b)))
				}
			}
		}
	}
}

// lead puts a text in, and takes what is told, but behind its last byte.
func lead(d *quoted.Decoder, b string) {
	for _, v := range []byte(b) {
		for _, ok := d.Next(); ok; _, ok = d.Next() {
		}
		d.Put(v)
	}
}

// P11.3: where the byte stands that stopped it: the first that can, a middle and the last one; and none, and by Cut.
func TestWhole(t *testing.T) {
	want(t, "", "", api.None, 0)
	want(t, "=x", "", api.BadEscape, 1)
	want(t, "=xabc", "", api.BadEscape, 1)
	want(t, "ab=xcd", "ab", api.BadEscape, 3)
	want(t, "ab=4xcd", "ab", api.BadEscape, 4)
	want(t, "ab =\rxcd", "ab ", api.BadEscape, 5)
	want(t, "abcd=x", "abcd", api.BadEscape, 5)
	want(t, "abcd\r=4x", "abcd\r", api.BadEscape, 7)
	want(t, "abcd", "abcd", api.None, 4)
	want(t, "abcd  ", "abcd", api.None, 6)
	want(t, "abcd=", "abcd", api.None, 5)
	want(t, "abcd=\r", "abcd", api.None, 6)
	want(t, "abcd=4", "abcd", api.Cut, 6)
	want(t, "abcd  =4", "abcd  ", api.Cut, 8)
	want(t, "=x=4", "", api.BadEscape, 1)
	if out, why, at := quoted.Whole(nil); len(out) != 0 || why != api.None || at != 0 {
		t.Error(out, why, at)
	}
}

// P11.1 to P11.3: rows of any bytes, mostly of those that mean something, held against the slow one.
func TestAnyRows(t *testing.T) {
	dice := rand.New(rand.NewSource(111))
	for range 20000 {
		var b []byte
		for range dice.Intn(30) {
			switch dice.Intn(12) {
			case 0:
				b = append(b, '=', "0123456789ABCDEFabcdef"[dice.Intn(22)], "0123456789ABCDEFabcdef"[dice.Intn(22)])
			case 1:
				b = append(b, "=\r\n"...)
			case 2:
				b = append(b, "=\n"...)
			case 3:
				b = append(b, "\r\n"...)
			case 4:
				b = append(b, "\r\n="[dice.Intn(2+dice.Intn(20)/19)])
			case 5, 6:
				b = append(b, "\t "[dice.Intn(2)])
			case 7:
				for range dice.Intn(140) {
					b = append(b, "\t "[dice.Intn(2)])
				}
			case 8:
				b = append(b, byte(dice.Intn(256)))
			default:
				b = append(b, "abAB01"[dice.Intn(6)])
			}
		}
		a := slowly(b)
		follow(t, quoted.New(), b, a)
		holdWhole(t, b, a)
	}
}

// P11.3: texts that the library writes, read.
func TestOfTheLibrary(t *testing.T) {
	dice := rand.New(rand.NewSource(113))
	for i := range 300 {
		b := make([]byte, dice.Intn(2000))
		for j := range b {
			b[j] = "abc =\t\r\n\x00\xff~."[dice.Intn(12)]
		}
		var text bytes.Buffer
		w := quotedprintable.NewWriter(&text)
		w.Binary = i%2 == 0
		if !w.Binary { // then it makes all ends of lines 13 and 10
			b = bytes.ReplaceAll(bytes.ReplaceAll(b, []byte("\r"), nil), []byte("\n"), []byte("\r\n"))
		}
		w.Write(b)
		w.Close()
		if out, why, at := quoted.Whole(text.Bytes()); !bytes.Equal(out, b) || why != api.None || at != text.Len() {
			t.Fatalf("%q: %q %d %d", text.Bytes(), out, why, at)
		}
		back, err := io.ReadAll(quotedprintable.NewReader(bytes.NewReader(quoted.Write(b, 76))))
		if err != nil || !bytes.Equal(back, b) {
			t.Fatalf("%q: %q %v", b, back, err)
		}
	}
}

// Rule 4: two decoders by turns have nothing in common.
func TestTwoByTurns(t *testing.T) {
	d, e := quoted.New(), quoted.New()
	if d == e {
		t.Fatal("one decoder twice")
	}
	wantPut(t, "d", d, ' ', "")
	wantPut(t, "e", e, '=', "")
	wantPut(t, "d", d, '\r', "")
	wantPut(t, "e", e, '4', "")
	wantPut(t, "d", d, 'x', " \rx")
	wantPut(t, "e", e, '1', "A")
	wantPut(t, "d", d, '\t', "")
	wantPut(t, "e", e, ' ', "")
	wantPut(t, "d", d, 'y', "\ty")
	wantPut(t, "e", e, 'z', " z")
	wantPut(t, "d", d, '=', "")
	wantPut(t, "e", e, '\r', "")
	d.Put('=')
	wantOver(t, "d", d, api.BadEscape)
	wantQuiet(t, "e", e, api.None)
	quoted.Whole([]byte("a =4"))
	quoted.Write([]byte("a "), 4)
	wantPut(t, "e", e, '\n', "\r\n")
	e.Reset()
	wantOver(t, "d", d, api.BadEscape)
	wantPut(t, "e", e, ' ', "")
	d.Reset()
	wantPut(t, "d", d, 'q', "q")
	wantPut(t, "e", e, 'r', " r")
	wantEnd(t, "e", e, "", api.None)
	wantPut(t, "d", d, 's', "s")
}

// Rule 1: a nil decoder.
func TestNil(t *testing.T) {
	var d *quoted.Decoder
	for i := range 256 {
		if d.Put(byte(i)) {
			t.Fatal(i)
		}
		wantQuiet(t, "nil", d, api.None)
	}
	d.End()
	wantQuiet(t, "nil, ended", d, api.None)
	d.Reset()
	wantQuiet(t, "nil, anew", d, api.None)
	if d.Put('a') {
		t.Fatal("nil, anew: Put = true")
	}
}

// Rule 3: what was handed in is as it was, and what was answered may be changed.
func TestMemory(t *testing.T) {
	const text = "ab =\r\n=41  \r\ncd \rx"
	room := []byte(text + "behind")
	first, _, _ := quoted.Whole(room[:len(text)])
	second, _, _ := quoted.Whole(room[:len(text)])
	first = first[:cap(first)]
	for i := range first {
		first[i] = '!'
	}
	if string(second) != "ab A\r\ncd \rx" || string(room) != text+"behind" {
		t.Errorf("%q %q", second, room)
	}
	says(t, text, "ab A\r\ncd \rx")
	for _, width := range []int{0, 4, 5, 76} {
		const b = "abcde =\x00 \r\n "
		room := []byte(b + "behind")
		one, other := quoted.Write(room[:len(b)], width), quoted.Write(room[:len(b)], width)
		was := string(other)
		one = one[:cap(one)]
		for i := range one {
			one[i] = '!'
		}
		if string(other) != was || string(room) != b+"behind" {
			t.Errorf("%q %q", other, room)
		}
		wantWritten(t, b, width, was)
	}
}
