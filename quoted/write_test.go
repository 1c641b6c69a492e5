package quoted_test

import (
	"bytes"
	"fmt"
	"math"
	"math/rand"
	"strings"
	"testing"

	"winkle/api"
	"winkle/quoted"
)

// widths are those at which something changes.
var widths = []int{math.MinInt, -1, 0, 1, 3, 4, 5, 6, 7, 8, 10, 20, 74, 75, 76, 77, 1000, math.MaxInt}

// pieces tells a text's pieces as they are written; a line's end is one of them.
func pieces(b string) []string {
	var out []string
	for i := 0; i < len(b); i++ {
		rest := b[i+1:]
		switch v := b[i]; {
		case v == '\r' && strings.HasPrefix(rest, "\n"):
			out = append(out, "\r\n")
			i++
		case (v == ' ' || v == '\t') && rest != "" && !strings.HasPrefix(rest, "\r\n"):
			out = append(out, b[i:i+1])
		case v != '=' && v > 32 && v < 127:
			out = append(out, b[i:i+1])
		default:
			out = append(out, fmt.Sprintf("=%02X", v))
		}
	}
	return out
}

// written is what Write must answer.
func written(b string, width int) string {
	if width < 4 || width > 76 {
		width = 76
	}
	var lines []string
	line := ""
	for _, p := range pieces(b) {
		switch {
		case p == "\r\n":
			lines, line = append(lines, line), ""
			continue
		case len(line+p) > width-1:
			lines, line = append(lines, line+"="), ""
		}
		line += p
	}
	return strings.Join(append(lines, line), "\r\n")
}

// wantWritten holds Write's answer against what is wanted, and reads it back.
func wantWritten(t *testing.T, b string, width int, text string) {
	t.Helper()
	in := []byte(b)
	w := quoted.Write(in, width)
	if string(w) != text {
		t.Errorf("Write(%q, %d) = %q, not %q", b, width, w, text)
	}
	if string(in) != b {
		t.Errorf("Write changed %q to %q", b, in)
	}
	if out, why, at := quoted.Whole(w); string(out) != b || why != api.None || at != len(w) {
		t.Errorf("Whole(%q) = %q %d %d, not %q", w, out, why, at, b)
	}
}

// P11.4: each byte alone, first, in the middle, last, and ahead of a line's end.
func TestWriteEveryByte(t *testing.T) {
	for i := range 256 {
		b := string([]byte{byte(i)})
		escape := "=" + strings.ToUpper(fmt.Sprintf("%02x", i))
		blank := b == " " || b == "\t"
		alone, inside := escape, escape
		if i >= 33 && i <= 126 && i != '=' {
			alone, inside = b, b
		}
		if blank {
			inside = b
		}
		wantWritten(t, b, 76, alone)
		wantWritten(t, b+"c", 76, inside+"c")
		wantWritten(t, "a"+b+"c", 76, "a"+inside+"c")
		wantWritten(t, "a"+b, 76, "a"+alone)
		wantWritten(t, "a"+b+"\r\n", 76, "a"+alone+"\r\n")
		wantWritten(t, "\r\n"+b+"\r\n", 76, "\r\n"+alone+"\r\n")
		for _, width := range widths {
			for _, row := range []string{b, b + b, b + b + b + b, "a" + b + "c", "ab" + b, "abc" + b, "abcd" + b + "\r\n" + b} {
				wantWritten(t, row, width, written(row, width))
			}
		}
	}
}

// P11.4: blanks ahead of 13 and 10, of a 13 alone, of a 10 alone, and last.
func TestWriteBlanks(t *testing.T) {
	for _, x := range []struct{ b, text string }{
		{"a \r\n", "a=20\r\n"}, {"a\t\r\n", "a=09\r\n"}, {" \r\n", "=20\r\n"}, {"  \r\n", " =20\r\n"}, {"\t \r\nb", "\t=20\r\nb"}, {" \t\r\n ", " =09\r\n=20"},
		{"a \rb", "a =0Db"}, {"a \r", "a =0D"}, {"a \nb", "a =0Ab"}, {"a \n", "a =0A"}, {"a \n\r", "a =0A=0D"}, {"a \r\r\n", "a =0D\r\n"},
		{" ", "=20"}, {"\t", "=09"}, {"  ", " =20"}, {"\t\t", "\t=09"}, {" a", " a"}, {" a ", " a=20"}, {"a b", "a b"}, {" =", " =3D"}, {"a  b\t\tc", "a  b\t\tc"},
	} {
		wantWritten(t, x.b, 76, x.text)
	}
	for _, n := range []int{1, 63, 64, 65, 66, 128, 129, 300} {
		run := strings.Repeat("\t ", n)[:n]
		for _, behind := range []string{"", "\r\n", "\r", "\n", "\rx", "x", "="} {
			for _, width := range widths {
				wantWritten(t, run+behind, width, written(run+behind, width))
			}
		}
	}
}

// P11.4: 13 and 10, side by side and alone.
func TestWriteEndsOfLines(t *testing.T) {
	for _, x := range []struct{ b, text string }{
		{"", ""}, {"\r\n", "\r\n"}, {"\r\n\r\n\r\n", "\r\n\r\n\r\n"}, {"\r\na", "\r\na"}, {"a\r\n", "a\r\n"}, {"a\r\n\r\nb", "a\r\n\r\nb"},
		{"\r", "=0D"}, {"\n", "=0A"}, {"\n\r", "=0A=0D"}, {"\r\r\n", "=0D\r\n"}, {"\r\n\n", "\r\n=0A"}, {"\r\n\r", "\r\n=0D"}, {"\n\r\n", "=0A\r\n"}, {"\r\r", "=0D=0D"}, {"\n\n", "=0A=0A"},
	} {
		for _, width := range []int{-1, 0, 75, 76, 77} {
			wantWritten(t, x.b, width, x.text)
		}
	}
	if w := quoted.Write(nil, 76); len(w) != 0 {
		t.Error(w)
	}
}

// P11.4: a line's end is no part of its line: it stands behind a full line as it is.
func TestWriteEndBehindAFullLine(t *testing.T) {
	wantWritten(t, "abc\r\n", 4, "abc\r\n")
	wantWritten(t, "abc\r\nabc", 4, "abc\r\nabc")
	wantWritten(t, "abcd\r\nabcd", 4, "abc=\r\nd\r\nabc=\r\nd")
	wantWritten(t, "=\r\n=", 4, "=3D\r\n=3D")
	full := strings.Repeat("a", 75)
	wantWritten(t, full+"\r\n"+full, 76, full+"\r\n"+full)
}

// P11.4: lines of just as many bytes as fit, one fewer and one more, of each kind of pieces.
func TestWriteWidths(t *testing.T) {
	wantWritten(t, "abc", 4, "abc")
	wantWritten(t, "abcd", 4, "abc=\r\nd")
	wantWritten(t, "abcd", 5, "abcd")
	wantWritten(t, "abcde", 5, "abcd=\r\ne")
	wantWritten(t, "==", 4, "=3D=\r\n=3D")
	wantWritten(t, "a=", 4, "a=\r\n=3D")
	wantWritten(t, "=a", 4, "=3D=\r\na")
	wantWritten(t, "a=", 5, "a=3D")
	wantWritten(t, "ab=", 5, "ab=\r\n=3D")
	wantWritten(t, "ab=", 6, "ab=3D")
	wantWritten(t, "== ", 6, "=3D=\r\n=3D=\r\n=20")
	wantWritten(t, "a b c d", 4, "a b=\r\n c =\r\nd")
	wantWritten(t, "abc d", 4, "abc=\r\n d")
	for _, width := range []int{math.MinInt, -76, -1, 0, 1, 2, 3, 75, 76, 77, 78, 1000, math.MaxInt} {
		fit := 75
		if width == 75 {
			fit = 74
		}
		for _, n := range []int{fit - 1, fit, fit + 1, 2*fit - 1, 2 * fit, 2*fit + 1} {
			all := strings.Repeat("a", n)
			text := all[:min(n, fit)]
			for at := fit; at < n; at += fit {
				text += "=\r\n" + all[at:min(n, at+fit)]
			}
			wantWritten(t, all, width, text)
		}
	}
	for _, width := range widths {
		for n := range 160 {
			for _, row := range []string{strings.Repeat("a", n), strings.Repeat("=", n), strings.Repeat(" ", n), strings.Repeat("a", n) + "=b", strings.Repeat("a", n) + " \r\nb", strings.Repeat("ab ", n)} {
				wantWritten(t, row, width, written(row, width))
			}
		}
	}
}

// P11.4: no line is longer than its width.
func TestNoLineIsLonger(t *testing.T) {
	dice := rand.New(rand.NewSource(114))
	for range 200 {
		b := make([]byte, dice.Intn(500))
		dice.Read(b)
		width := 4 + dice.Intn(73)
		for _, line := range strings.Split(string(quoted.Write(b, width)), "\r\n") {
			if len(line) > width || len(line) == width && !strings.HasSuffix(line, "=") {
				t.Fatalf("width %d: %q", width, line)
			}
		}
	}
}

// P11.4, P11.5: every two bytes, written and read back.
func TestEveryTwoBytes(t *testing.T) {
	for i := range 256 {
		for j := range 256 {
			two := string([]byte{byte(i), byte(j)})
			wantWritten(t, two, 76, written(two, 76))
			wantWritten(t, two, 4, written(two, 4))
		}
	}
}

// P11.4, P11.5: all short rows of what is written in different ways, read back.
func TestWriteEveryShortRow(t *testing.T) {
	rows(6, "a= \r\n", func(b []byte) {
		for _, width := range []int{4, 5, 6, 7, 76} {
			wantWritten(t, string(b), width, written(string(b), width))
		}
	})
}

// P11.5: bytes written in lines of many widths, with soft breaks laid in between any pieces, read back.
func TestSoftBreaksLaidInAnywhere(t *testing.T) {
	dice := rand.New(rand.NewSource(115))
	for range 2000 {
		b := make([]byte, dice.Intn(300))
		for i := range b {
			b[i] = "ab =\t  \r\n\r\n\x00\xff"[dice.Intn(13)]
			if dice.Intn(5) == 0 {
				b[i] = byte(dice.Intn(256))
			}
		}
		width := dice.Intn(90) - 5
		wantWritten(t, string(b), width, written(string(b), width))
		var laid []byte
		lay := func() {
			for dice.Intn(4) == 0 {
				laid = append(laid, []string{"=\n", "=\r\n"}[dice.Intn(2)]...)
			}
		}
		for _, p := range pieces(string(b)) {
			lay()
			laid = append(laid, p...)
		}
		lay()
		if out, why, at := quoted.Whole(laid); !bytes.Equal(out, b) || why != api.None || at != len(laid) {
			t.Fatalf("Whole(%q) = %q %d %d, not %q", laid, out, why, at, b)
		}
	}
}

// P11.5: soft breaks between 13 and 10 that say themselves, and between blanks that do, change nothing either.
func TestSoftBreaksBetweenWhatIsSaid(t *testing.T) {
	for _, x := range []string{"a\r\nb", "a  b", " \t =41", "\r\r\nx", "=41=42", "a\n\n", "\r\n", " \rx"} {
		said, _, _ := quoted.Whole([]byte(x))
		for _, soft := range []string{"=\n", "=\r\n", "=\n=\r\n"} {
			for at := 0; at <= len(x); at++ {
				if eq := strings.LastIndexByte(x[:at], '='); eq >= 0 && at-eq < 3 {
					continue // within an escape
				}
				says(t, x[:at]+soft+x[at:], string(said))
			}
		}
	}
}
