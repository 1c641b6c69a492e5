package parts_test

import (
	"mime/multipart"
	"slices"
	"strings"
	"testing"

	"winkle/api"
	"winkle/parts"
)

// marks of a boundary that are neither letters nor digits.
const signs = "'()+_,-./:=? "

// wantBoundary holds it that a text is a boundary, or none; the library's writer must say the same.
func wantBoundary(t *testing.T, boundary string, may bool) {
	t.Helper()
	if parts.Valid(boundary) != may {
		t.Errorf("Valid(%q) = %t", boundary, !may)
	}
	if e := multipart.NewWriter(nil).SetBoundary(boundary); (e == nil) != may {
		t.Errorf("%q: the library says %v", boundary, e)
	}
	s, e := parts.New(boundary)
	if may && (s == nil || e != api.OK) || !may && (s != nil || e != api.ErrArg) {
		t.Errorf("New(%q) = %v %d", boundary, s, e)
	}
	_, _, e = parts.Whole(nil, boundary)
	_, ok := parts.Write(nil, boundary)
	if (e == api.OK) != may || !may && e != api.ErrArg || ok != may {
		t.Errorf("%q: Whole tells %d, Write %t", boundary, e, ok)
	}
}

// P14.1: boundaries of many lengths.
func TestBoundarysLength(t *testing.T) {
	for n := range 200 {
		for _, v := range []string{"b", "-", "?"} {
			wantBoundary(t, strings.Repeat(v, n), 1 <= n && n <= 70)
			wantBoundary(t, strings.Repeat(" ", n)+v, n <= 69)
			wantBoundary(t, strings.Repeat(v, n)+" ", false)
		}
		wantBoundary(t, strings.Repeat(" ", n), false)
	}
	wantBoundary(t, strings.Repeat("b", 1<<16), false)
	wantBoundary(t, strings.Repeat("ä", 35), false)
}

// P14.1: every byte alone, first, within and last.
func TestBoundarysBytes(t *testing.T) {
	for i := range 256 {
		b := byte(i)
		v := string([]byte{b})
		may := 'a' <= b && b <= 'z' || 'A' <= b && b <= 'Z' || '0' <= b && b <= '9' || strings.Contains(signs, v)
		last := may && b != ' '
		wantBoundary(t, v, last)
		wantBoundary(t, v+"b", may)
		wantBoundary(t, "b"+v+"b", may)
		wantBoundary(t, "b"+v, last)
		wantBoundary(t, v+v, last)
		wantBoundary(t, strings.Repeat("b", 34)+v+strings.Repeat("b", 35), may)
		wantBoundary(t, v+strings.Repeat("b", 69), may)
		wantBoundary(t, strings.Repeat("b", 69)+v, last)
		wantBoundary(t, strings.Repeat("b", 70)+v, false)
	}
}

// events tells a row's events: ( opens a part, ) closes one, any other byte is one of a part.
func events(row string) []api.Event {
	var out []api.Event
	for _, b := range []byte(row) {
		switch b {
		case '(':
			out = append(out, opened)
		case ')':
			out = append(out, closed)
		default:
			out = append(out, api.Event{Kind: api.EventByte, Byte: b})
		}
	}
	return out
}

// feed puts bytes in, and lets go of what is told.
func feed(t *testing.T, s *parts.Splitter, b string) {
	t.Helper()
	for i := range len(b) {
		if !s.Put(b[i]) {
			t.Fatalf("%q: Put of byte %d = false", b, i)
		}
		for _, ok := s.Next(); ok; _, ok = s.Next() {
		}
	}
}

// known is a byte, and the events that are known with it.
type known struct {
	b    byte
	told string
}

// quietly tells bytes with which nothing is known.
func quietly(b string) []known {
	var out []known
	for _, v := range []byte(b) {
		out = append(out, known{v, ""})
	}
	return out
}

// P14.2: at each byte what is known with it, no sooner and no later.
func TestKnownWith(t *testing.T) {
	for _, x := range []struct {
		rows  [][]known
		atEnd string
		why   api.Reason
	}{
		{[][]known{quietly("x\r\n--b"), {{'\n', "("}, {'x', "x"}, {0, "\x00"}, {'\r', ""}, {'x', "\rx"}}}, ")", api.NoClose},
		{[][]known{quietly("--b \t\r"), {{'\n', "("}}, quietly("\r\n--b \t\r"), {{'\n', ")("}}, quietly("--b--\r"), {{'\n', ")"}}, quietly("x\n--b\nx")}, "", api.None},
		{[][]known{quietly("--b"), {{'\n', "("}, {'-', ""}, {'x', "-x"}, {'-', "-"}, {'\n', ""}, {'-', ""}, {'x', "\n-x"}}}, ")", api.NoClose},
		{[][]known{quietly("--b"), {{'\n', "("}, {'\r', ""}, {'\r', "\r"}, {'\r', "\r"}, {'\n', ""}, {'\r', "\r\n"}, {'\n', ""}, {'\n', "\r\n"}, {'\n', "\n"}}}, "\n)", api.NoClose},
		{[][]known{quietly("--b"), {{'\n', "("}}, quietly("--b-"), {{'\n', "--b-"}, {'-', ""}, {'-', ""}, {'\r', "\n--"}, {'-', "\r-"}}}, ")", api.NoClose},
		{[][]known{quietly("--b"), {{'\n', "("}}, quietly("\r\n--b--\r"), {{'\r', "\r\n--b--\r"}, {'\n', ""}, {'\n', "\r\n"}}, quietly("--b-- "), {{'x', "\n--b-- x"}}}, ")", api.NoClose},
		{[][]known{quietly("--b"), {{'\n', "("}}, quietly("\n--b" + strings.Repeat(" ", 16)), {{'\t', "\n--b" + strings.Repeat(" ", 16) + "\t"}, {' ', " "}, {'\n', ""}}}, "\n)", api.NoClose},
		{[][]known{quietly("--b"), {{'\n', "("}}, quietly("--b--" + strings.Repeat("\t", 16)), {{' ', "--b--" + strings.Repeat("\t", 16) + " "}}}, ")", api.NoClose},
		{[][]known{quietly("--b"), {{'\n', "("}}, quietly("--b "), {{'-', "--b -"}, {'-', "-"}}}, ")", api.NoClose},
		{[][]known{quietly("--b"), {{'\n', "("}}, quietly("--b--"), {{'-', "--b---"}}}, ")", api.NoClose},
		{[][]known{quietly("--b"), {{'\n', "("}, {'x', "x"}}, quietly("\r\n--b")}, ")()", api.NoClose},
		{[][]known{quietly("--b"), {{'\n', "("}, {'x', "x"}}, quietly("\r\n--b--  ")}, ")", api.None},
		{[][]known{quietly("--b"), {{'\n', "("}, {'x', "x"}}, quietly("\r\n--b-")}, "\r\n--b-)", api.NoClose},
		{[][]known{quietly("--b"), {{'\n', "("}, {'x', "x"}}, quietly("\r\n--b--\r")}, "\r\n--b--\r)", api.NoClose},
		{[][]known{quietly("--b"), {{'\n', "("}, {'x', "x"}}, quietly("\r\n--")}, "\r\n--)", api.NoClose},
		{[][]known{quietly("--b")}, "()", api.NoClose},
		{[][]known{quietly("--b\t")}, "()", api.NoClose},
		{[][]known{quietly("--b--")}, "", api.None},
	} {
		s := splitter(t, "b")
		note := ""
		for _, k := range slices.Concat(x.rows...) {
			note += string([]byte{k.b})
			if !s.Put(k.b) {
				t.Fatalf("%q: Put = false", note)
			}
			wantTold(t, note, s, events(k.told), api.None)
		}
		s.End()
		wantTold(t, note, s, events(x.atEnd), x.why)
		wantOver(t, note, s, x.why)
		borders("b").hold(t, note)
	}
}

// P14.2: what is told behind a byte is just what all that may follow leaves as it is.
func TestNothingThatFollowsChangesIt(t *testing.T) {
	k := borders("b")
	const rest = "\r\n--b--\n"
	follows := []string{"", "x", "\n", "\n--b\n", "--b\n", "-b\n", "b\n"}
	for i := range rest {
		follows = append(follows, rest[i:])
	}
	for _, ahead := range []string{"", "--b\n", "--b\nx\n--b"} {
		rows(4, []string{"-", "b", " ", "\r", "\n", "x", strings.Repeat("\t", 16)}, func(row string) {
			b := ahead + row
			s := splitter(t, "b")
			var told []api.Event
			for i := range len(b) {
				s.Put(b[i])
				for e, ok := s.Next(); ok; e, ok = s.Next() {
					told = append(told, e)
				}
			}
			same := k.slowly(b + follows[0]).events
			for _, f := range follows[1:] {
				same = common(same, k.slowly(b+f).events)
			}
			if !slices.Equal(told, same) {
				t.Fatalf("%q: %v was told, not %v", b, told, same)
			}
		})
	}
}

// common tells with what both begin.
func common(one, two []api.Event) []api.Event {
	n := 0
	for n < len(one) && n < len(two) && one[n] == two[n] {
		n++
	}
	return one[:n]
}

// P14.2: Put of any byte while Next would tell an event is refused, End then does nothing, and nothing has changed.
func TestPutAndEndWhileNextWouldTell(t *testing.T) {
	for _, x := range []struct{ ahead, with, told, behind string }{
		{"", "--b\n", "(", "x)"}, {"--b\n", "x", "x", "x)"}, {"--b\n", "\rx", "\rx", "x)"}, {"--b\nx", "\n--b\n", ")(", "x)"}, {"--b\n", "--b--\n", ")", ""},
		{"--b\nx", "\r\n--b-- \r\r", "\r\n--b-- \r", "\rx)"}, {"--b\n", "\n\n", "\n", "\nx)"}, {"--b\n", "--b" + strings.Repeat(" ", 17), "--b" + strings.Repeat(" ", 17), "x)"},
	} {
		s := splitter(t, "b")
		feed(t, s, x.ahead)
		for i := range len(x.with) {
			if !s.Put(x.with[i]) {
				t.Fatalf("%q: Put of byte %d of %q = false", x.ahead, i, x.with)
			}
		}
		for _, e := range events(x.told) {
			for i := range 256 {
				if s.Put(byte(i)) {
					t.Fatalf("%q: Put(%d) = true ahead of %v", x.with, i, e)
				}
			}
			s.End()
			if w := s.Reason(); w != api.None {
				t.Fatalf("%q: Reason = %d", x.with, w)
			}
			if n, ok := s.Next(); n != e || !ok {
				t.Fatalf("%q: Next = %v %t, not %v", x.with, n, ok, e)
			}
		}
		wantQuiet(t, x.with, s, api.None)
		if !s.Put('x') {
			t.Fatalf("%q: Put behind all events = false", x.with)
		}
		n := max(0, len(x.behind)-1)
		wantTold(t, x.with, s, events(x.behind[:n]), api.None)
		s.End()
		why := api.NoClose
		if x.behind == "" {
			why = api.None
		}
		wantTold(t, x.with, s, events(x.behind[n:]), why)
	}
}

// P14.3: End behind all that may have been begun, twice; Reason ahead of it, behind it, and behind what is known by it.
func TestEnd(t *testing.T) {
	for _, x := range []struct {
		b, told string
		why     api.Reason
	}{
		{"", "", api.NoClose}, {"x", "", api.NoClose}, {"x\n", "", api.NoClose}, {"x\r", "", api.NoClose}, {"-", "", api.NoClose}, {"--", "", api.NoClose}, {"--b-", "", api.NoClose}, {"--b\r", "", api.NoClose},
		{"--b", "()", api.NoClose}, {"--b  ", "()", api.NoClose}, {"--b--", "", api.None}, {"--b--\t", "", api.None}, {"--b--\n", "", api.None}, {"--b--\n--b\n", "", api.None},
		{"--b\n", ")", api.NoClose}, {"--b\nx", ")", api.NoClose}, {"--b\nx\r", "\r)", api.NoClose}, {"--b\nx\n", "\n)", api.NoClose}, {"--b\nx\r\n", "\r\n)", api.NoClose}, {"--b\nx\r\n-", "\r\n-)", api.NoClose},
		{"--b\n-", "-)", api.NoClose}, {"--b\n--", "--)", api.NoClose}, {"--b\n--b", ")()", api.NoClose}, {"--b\n--b-", "--b-)", api.NoClose}, {"--b\n--b--", ")", api.None}, {"--b\n--b--\r", "--b--\r)", api.NoClose},
		{"--b\n--b--\r\n", "", api.None}, {"--b\nx\n--b--\n--b", "", api.None}, {"--b\nx\n--b\n", ")", api.NoClose}, {"--b\nx\n--b--x", ")", api.NoClose},
	} {
		s := splitter(t, "b")
		feed(t, s, x.b)
		wantQuiet(t, x.b, s, api.None)
		s.End()
		wantTold(t, x.b, s, events(x.told), x.why)
		wantOver(t, x.b, s, x.why)
		if a := borders("b").slowly(x.b); !slices.Equal(a.with(len(x.b)), events(x.told)) || a.why != x.why {
			t.Errorf("%q: the slow one tells %v %d", x.b, a.with(len(x.b)), a.why)
		}
	}
}

// P14.2: behind the last delimiter every byte is put in, and there is no event.
func TestPutBehindTheLastDelimiter(t *testing.T) {
	for _, b := range []string{"--b--\n", "--b-- \r\n", "--b\nx\n--b--\n"} {
		s := splitter(t, "b")
		feed(t, s, b)
		for i := range 256 {
			if !s.Put(byte(i)) {
				t.Fatalf("%q: Put(%d) = false", b, i)
			}
			wantQuiet(t, b, s, api.None)
		}
		for _, v := range []byte("\n--b\nx\n--b--\n") {
			if !s.Put(v) {
				t.Fatalf("%q: Put(%q) = false", b, v)
			}
			wantQuiet(t, b, s, api.None)
		}
		s.End()
		wantOver(t, b, s, api.None)
	}
}

// Rule 1: a nil splitter.
func TestNil(t *testing.T) {
	var s *parts.Splitter
	for range 2 {
		wantOver(t, "nil", s, api.None)
		for i := range 256 {
			if s.Put(byte(i)) {
				t.Errorf("Put(%d) = true", i)
			}
		}
		s.End()
	}
}

// Rule 4: two splitters have nothing in common.
func TestTwoSplitters(t *testing.T) {
	one, two := borders("b"), borders("bc")
	text := "--b\nx\r\n--bc\r\ny\n--b\n\n--bc-- \n--b--\n"
	a, b := one.slowly(text), two.slowly(text)
	s, o := splitter(t, "b"), splitter(t, "bc")
	for i := range len(text) {
		if !s.Put(text[i]) || !o.Put(text[i]) {
			t.Fatalf("Put of byte %d = false", i)
		}
		wantTold(t, text, s, a.with(i), api.None)
		wantTold(t, text, o, b.with(i), api.None)
	}
	s.End()
	wantTold(t, text, s, a.with(len(text)), a.why)
	if !o.Put('x') {
		t.Error("End of one ended the other")
	}
}

// Theorem 3 needs it: the room is the same from New on, whatever comes.
func TestRoomStaysTheSame(t *testing.T) {
	s := splitter(t, strings.Repeat("b", 70))
	line := "--" + strings.Repeat("b", 70)
	text := line + "\r\nx\r\n" + line + strings.Repeat(" ", 16) + "\r\n\r\n" + line + "--" + strings.Repeat("\t", 16) + "\rx\n"
	if n := testing.AllocsPerRun(20, func() {
		for i := range len(text) {
			s.Put(text[i])
			for _, ok := s.Next(); ok; _, ok = s.Next() {
			}
		}
	}); n != 0 {
		t.Errorf("%v times there was need of more room", n)
	}
}
