package parts_test

import (
	"math/rand"
	"strings"
	"testing"

	"winkle/api"
	"winkle/parts"
)

// rows goes through all rows of up to n of the words.
func rows(n int, words []string, do func(b string)) {
	var walk func(b string, left int)
	walk = func(b string, left int) {
		do(b)
		if left == 0 {
			return
		}
		for _, w := range words {
			walk(b+w, left-1)
		}
	}
	walk("", n)
}

// ends are the ends that lines may have.
var ends = []string{"\n", "\r\n"}

// The chapter's examples.
func TestExamples(t *testing.T) {
	k := borders("b")
	k.want(t, "x\r\n--b\r\none\r\n--b \n\ntwo\n--b--", api.None, "one", "\ntwo")
	k.want(t, "--b\n--b--", api.None, "")
	k.want(t, "--b\nx", api.NoClose, "x")
	k.want(t, "--bx\n--b--\n--b", api.None)
	k.want(t, "--b\nx--b\n--b-", api.NoClose, "x--b\n--b-")
	if s, e := parts.New("a "); s != nil || e != api.ErrArg {
		t.Errorf("New of a last blank = %v %d", s, e)
	}
	splitter(t, "a b")
	if b, ok := parts.Write([][]byte{[]byte("x\n--b")}, "b"); len(b) > 0 || ok {
		t.Errorf("Write of a delimiter = %q %t", b, ok)
	}
}

// P14.2, P14.4: lines that end with 10, with 13 and 10, with 13 and 13 and 10; a 13 alone within a line and last.
func TestLines(t *testing.T) {
	k := borders("b")
	for _, end := range ends {
		k.want(t, "--b"+end+"x"+end+"y"+end+"--b--"+end, api.None, "x"+end+"y")
		k.want(t, "--b"+end+"x\r\r\n--b--"+end, api.None, "x\r")
		k.want(t, "--b"+end+"x\r\r\r\n--b--"+end, api.None, "x\r\r")
		k.want(t, "--b"+end+"x\ry"+end+"--b--"+end, api.None, "x\ry")
		k.want(t, "--b"+end+"\rx"+end+"--b--"+end, api.None, "\rx")
		k.want(t, "--b"+end+"x\r--b--"+end, api.NoClose, "x\r--b--"+end)
		k.want(t, "--b"+end+"x\r", api.NoClose, "x\r")
		k.want(t, "--b"+end+"\r", api.NoClose, "\r")
		k.want(t, "--b"+end+"\r\r", api.NoClose, "\r\r")
		k.want(t, "--b"+end+"x"+end+"\r", api.NoClose, "x"+end+"\r")
	}
	// A 13 belongs to a delimiter's end only directly ahead of a 10, and only once.
	k.want(t, "--b\r", api.NoClose)
	k.want(t, "--b--\r", api.NoClose)
	k.want(t, "--b\r\r\n", api.NoClose)
	k.want(t, "--b--\r\r\n", api.NoClose)
	k.want(t, "--b\rx\n", api.NoClose)
	k.want(t, "--b\r \n", api.NoClose)
	k.want(t, "--b \r\n", api.NoClose, "")
	k.want(t, "--b\n--b\r", api.NoClose, "--b\r")
	k.want(t, "--b\n--b\r\r\n--b--", api.None, "--b\r")
	k.want(t, "--b\nx\n--b--\r", api.NoClose, "x\n--b--\r")
	k.want(t, "--b\nx\n--b--\r\r\n", api.NoClose, "x\n--b--\r\r\n")
	k.want(t, "\r--b\n", api.NoClose)
	k.want(t, "x\r--b\n", api.NoClose)
}

// P14.2: where a delimiter may stand.
func TestPlacesOfDelimiters(t *testing.T) {
	k := borders("b")
	for _, end := range ends {
		for _, one := range ends {
			for _, two := range ends {
				k.want(t, "--b"+one+"x"+end+"--b"+two+"y"+end+"--b--", api.None, "x", "y")
				k.want(t, "--b"+one+"--b"+two+"--b--"+end, api.None, "", "")
				k.want(t, "--b"+one+end+"--b"+two+end+"--b--", api.None, "", "")
				k.want(t, one+"--b"+two+end+end+"--b--"+end, api.None, end)
				k.want(t, "x"+one+"--b"+two+"y"+end+"--b", api.NoClose, "y", "")
			}
		}
		k.want(t, "--b"+end, api.NoClose, "")
		k.want(t, "--b--"+end, api.None)
		k.want(t, end+"--b--"+end, api.None)
		k.want(t, "x--b"+end, api.NoClose)
		k.want(t, "--b"+end+"x--b--"+end, api.NoClose, "x--b--"+end)
		k.want(t, "--b"+end+" --b--"+end, api.NoClose, " --b--"+end)
		k.want(t, "--b"+end+"\t--b--"+end, api.NoClose, "\t--b--"+end)
		k.want(t, " --b"+end+"x"+end+"--b--", api.None)
		k.want(t, "--b"+end+"---b--"+end, api.NoClose, "---b--"+end)
		k.want(t, "--b"+end+"-b--"+end, api.NoClose, "-b--"+end)
		k.want(t, "--b"+end+"b--"+end, api.NoClose, "b--"+end)
	}
	k.want(t, "--b", api.NoClose, "")
	k.want(t, "--b--", api.None)
	k.want(t, "--b\n--b", api.NoClose, "", "")
	k.want(t, "--b\n\n--b", api.NoClose, "", "")
	k.want(t, "--b\nx\n--b \t", api.NoClose, "x", "")
	k.want(t, "--b\nx\n--b-- \t", api.None, "x")
}

// P14.2: what may stand behind the boundary.
func TestTailsOfDelimiters(t *testing.T) {
	k := borders("b")
	for _, end := range []string{"\n", "\r\n", ""} {
		for n := range 20 {
			for _, kind := range []string{" ", "\t", " \t", "\t  "} {
				pad := strings.Repeat(kind, n)[:n]
				for _, x := range []struct {
					line string
					may  bool
					last bool
				}{
					{"--b" + pad, n <= 16, false},
					{"--b--" + pad, n <= 16, true},
					{"--b-" + pad, false, false},
					{"--b---" + pad, false, false},
					{"--b----" + pad, false, false},
					{"--b" + pad + "--", n == 0, true},
					{"--b" + pad + "--" + pad, n == 0, true},
					{"--b" + pad + "-", false, false},
					{"--b-" + pad + "-", n == 0, true},
					{"--b" + pad + "x", false, false},
					{"--b--" + pad + "x", false, false},
					{"--b" + pad + "\r", false, false},
					{"--b--" + pad + "\r", false, false},
					{"--b" + pad + "\x00", false, false},
					{"--b--" + pad + "\v", false, false},
				} {
					if strings.HasSuffix(x.line, "\r") && end == "\n" {
						continue // the 13 would be the line's end's
					}
					switch {
					case x.may && x.last:
						k.want(t, "--b\nx\n"+x.line+end, api.None, "x")
						k.want(t, x.line+"\n--b\ny"+end, api.None)
					case x.may:
						k.want(t, "--b\nx\n"+x.line+end, api.NoClose, "x", "")
						k.want(t, x.line+"\ny"+end, api.NoClose, "y"+end)
					default:
						k.want(t, "--b\nx\n"+x.line+end, api.NoClose, "x\n"+x.line+end)
						k.want(t, "--b\n"+x.line+end+"\r\n--b--", api.None, x.line+end)
						k.want(t, x.line+end, api.NoClose)
					}
				}
			}
		}
	}
}

// P14.2: a line that begins as a delimiter, and goes on otherwise at each of its bytes, by every byte.
func TestOtherwiseAtEachByte(t *testing.T) {
	const line = "--bcb--  \r"
	k := borders("bcb")
	for i := range len(line) + 1 {
		for v := range 256 {
			b := line[:i] + string([]byte{byte(v)})
			for _, ahead := range []string{"", "--bcb\n", "--bcb\nx\n", "--bcb\n\r\n", "x\r\n"} {
				k.hold(t, ahead+b)
				k.hold(t, ahead+b+"\n--bcb--")
			}
			if v == '\r' || v == '\n' || v == ' ' || v == '\t' || v == '-' || i < 5 && byte(v) == line[i] {
				continue // it may be a delimiter yet
			}
			k.want(t, "--bcb\r\n"+b+"\r\n--bcb--", api.None, b)
			k.want(t, "--bcb\r\nx\r\n"+b+"\r\n--bcb--", api.None, "x\r\n"+b)
			k.want(t, "--bcb\nx\n"+b, api.NoClose, "x\n"+b)
		}
	}
}

// P14.2: boundaries that begin or end with a `-`, hold a blank, or repeat their own beginning.
func TestBoundariesOfManyKinds(t *testing.T) {
	for _, boundary := range []string{
		"-", "--", "---", "----", "-b", "--b", "b-", "b--", "b---", "-b-", "--b--", "a b", " b", "  b", " - b", "b b b", "aab", "abab", "aaa", "aabaab", "--a--a", "b'()+_,-./:=?",
		strings.Repeat("-", 70), strings.Repeat("a", 70), strings.Repeat("ab", 35), " " + strings.Repeat(" b", 34), strings.Repeat("z", 69) + "-",
	} {
		k := borders(boundary)
		d := "--" + boundary
		for _, end := range ends {
			k.want(t, d+end+"x"+end+d+end+"y"+end+d+"--"+end, api.None, "x", "y")
			k.want(t, d+end+d+"--", api.None, "")
			k.want(t, d+end+d, api.NoClose, "", "")
			for _, near := range []string{d + "-" + end + d + "---", "-" + d, " " + d, boundary, boundary + "--", d + d, d + boundary} {
				if _, ok := k.write([]string{near}); ok {
					k.want(t, d+end+near+end+d+"--", api.None, near)
				}
			}
		}
		for i := range len(d) {
			near := d[:i]
			if _, ok := k.write([]string{near}); ok {
				k.want(t, d+"\n"+near+"\n"+d+"--", api.None, near)
				k.want(t, d+"\nx\r\n"+near, api.NoClose, "x\r\n"+near)
			}
		}
		rows(3, []string{d, d + "--", "-", " ", "\n", "\r", boundary}, func(b string) { k.hold(t, d+"\n"+b) })
	}
}

// P14.2: a boundary that is another one's beginning, or another one with a `--` behind it.
func TestBoundariesWithinBoundaries(t *testing.T) {
	short, long, dashes := borders("b"), borders("bc"), borders("b--")
	b := "--bc\nx\n--b\ny\n--bc--\nz\n--b--\n"
	short.want(t, b, api.None, "y\n--bc--\nz")
	long.want(t, b, api.None, "x\n--b\ny")
	dashes.want(t, b, api.NoClose, "")
	dashes.want(t, "--b\n--b--\nx\n--b\n--b----", api.None, "x\n--b")
	short.want(t, "--b\n--b----\n--b--", api.None, "--b----")
	borders("B").want(t, b, api.NoClose)
}

// P14.2: parts that are empty, a line's end alone, end with lines' ends, hold none, hold every byte.
func TestPartsOfManyKinds(t *testing.T) {
	k := borders("b")
	all := make([]byte, 256)
	for i := range all {
		all[i] = byte(i)
	}
	list := []string{"", "\n", "\r\n", "\r", "\n\n", "\r\n\r\n", "\n\r\n", "\r\n\n", "\n\n\n", "\r\n\r\n\r\n", "\n\r", "\r\r", "\r\r\n", "-", "--", "--\n", "\n--", "b", "--bb", "---b", "\x00", string(all)}
	for _, text := range []string{"x", "x y", "\x00\xff", string(all)} {
		for _, tail := range []string{"\n", "\n\n", "\n\n\n", "\r\n", "\r\n\r\n", "\r\n\r\n\r\n", "\r\r\n", "\r"} {
			list = append(list, text, text+tail, tail+text, tail+text+tail)
		}
	}
	for _, one := range list {
		for _, end := range ends {
			if strings.HasSuffix(one, "\r") && end == "\n" {
				continue // the 13 would be the line's end's
			}
			k.want(t, "--b"+end+one+end+"--b--", api.None, one)
			k.want(t, "--b"+end+one+end+"--b"+end, api.NoClose, one, "")
			k.want(t, "--b"+end+one+end+"--b"+end+one+end+"--b--"+end+one, api.None, one, one)
		}
		k.want(t, "--b\n"+one, api.NoClose, one)
	}
	for i := range 256 {
		v := string([]byte{byte(i)})
		k.want(t, "--b\r\n"+v+"\r\n--b--", api.None, v)
		k.want(t, "--b\r\nx"+v+v+"y\r\n--b--", api.None, "x"+v+v+"y")
		k.want(t, "--b\r\n"+v, api.NoClose, v)
		k.want(t, v+"\n--b--\n"+v, api.None)
	}
}

// P14.2: what stands ahead of the first delimiter, and behind the last one, is no part's, delimiters there among it.
func TestAheadAndBehind(t *testing.T) {
	k := borders("b")
	for _, end := range ends {
		for _, ahead := range []string{"", "x", "--", "--bx", "-b", "x" + end + "y", end, end + end, "--b-", " --b", "--b" + strings.Repeat(" ", 17), "\r", "\x00\xff", strings.Repeat("x--b", 50)} {
			k.want(t, ahead+end+"--b"+end+"p"+end+"--b--", api.None, "p")
			k.want(t, ahead+end+"--b--"+end+"--b"+end+"p", api.None)
			k.want(t, ahead, api.NoClose)
			for _, behind := range []string{"", "x", "--b", "--b--", "--b" + end + "q" + end + "--b--", end, "\r", "--b" + end + ahead} {
				k.want(t, ahead+end+"--b"+end+"p"+end+"--b--"+end+behind, api.None, "p")
				k.want(t, "--b--"+end+behind, api.None)
			}
		}
	}
}

// P14.1, P14.4: no boundary, no bytes.
func TestWholeOfLittle(t *testing.T) {
	for _, boundary := range []string{"", " ", "b ", "b\n", "b*", "\xe4", strings.Repeat("b", 71)} {
		for _, b := range []string{"", "--b\nx", "--" + boundary + "\nx\n--" + boundary + "--"} {
			if list, why, e := parts.Whole([]byte(b), boundary); len(list) > 0 || why != api.None || e != api.ErrArg {
				t.Errorf("Whole(%q, %q) = %q %d %d, not ErrArg alone", b, boundary, list, why, e)
			}
		}
	}
	if list, why, e := parts.Whole(nil, "b"); len(list) > 0 || why != api.NoClose || e != api.OK {
		t.Errorf("Whole of nothing = %q %d %d", list, why, e)
	}
	k := borders("b")
	k.want(t, "", api.NoClose)
	k.want(t, "x", api.NoClose)
	k.want(t, "x\n", api.NoClose)
	k.want(t, "--b\n", api.NoClose, "")
	k.want(t, "--b--", api.None)
}

// P14.2, P14.3: all short rows of a delimiter's bytes, at the beginning of all, at a part's, within one and in a line that may be a delimiter, held against the slow one.
func TestEveryShortRow(t *testing.T) {
	k := borders("b")
	bytes := []string{"-", "b", " ", "\r", "\n", "x"}
	for _, ahead := range []string{"", "--b\n", "--b\nx", "--b\r\nx\r\n--b"} {
		rows(5, bytes, func(b string) { k.hold(t, ahead+b) })
	}
}

// P14.2, P14.3: all short rows of words, held against the slow one.
func TestEveryShortRowOfWords(t *testing.T) {
	k := borders("b")
	rows(5, []string{"--b", "--b--", "\n", "\r\n", "\r", "x", "\t", "-"}, func(b string) { k.hold(t, b) })
	rows(4, []string{"--b", "--b--", "\n", "\r\n", "\r", "x", strings.Repeat(" ", 16), strings.Repeat("\t", 17), "--"}, func(b string) { k.hold(t, "--b\nx\n"+b) })
}

// P14.2, P14.3: long bodies put together by chance, at many boundaries, held against the slow one.
func TestByChance(t *testing.T) {
	r := rand.New(rand.NewSource(14))
	const letters = "bc-' .?Z9"
	for range 200 {
		boundary := ""
		for range 1 + r.Intn(70) {
			boundary += letters[r.Intn(len(letters)):][:1]
		}
		boundary = boundary[1:] + "-bbbb"[r.Intn(5):][:1]
		k := borders(boundary)
		d := "--" + boundary
		b := ""
		for range r.Intn(60) {
			words := []string{d, d + "\n", d + "\r\n", "\n" + d + "\n", "\r\n" + d + "\r\n", d[:r.Intn(len(d))], "\n" + d[:r.Intn(len(d))], "\n", "\r\n", "\r", "-", "x", strings.Repeat(" \t", 9)[:r.Intn(19)], string([]byte{byte(r.Intn(256))})}
			if r.Intn(20) == 0 {
				b += "\n" + d + "--"
			}
			b += words[r.Intn(len(words))]
		}
		k.hold(t, b)
	}
}
