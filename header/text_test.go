package header_test

import (
	"slices"
	"strings"
	"testing"

	"winkle/api"
	"winkle/header"
)

// wantGet holds Get's answer against what is wanted.
func wantGet(t *testing.T, fields []api.Field, name, value string, ok bool) {
	t.Helper()
	if v, o := header.Get(fields, name); v != value || o != ok {
		t.Errorf("Get(%q, %q) = %q %t, not %q %t", fields, name, v, o, value, ok)
	}
}

// P12.4: the first field of a name, by capital and small letters.
func TestGet(t *testing.T) {
	fields := pairs("Aa", "1", "b", "2", "aA", "3", "B", "", "c-[~", "5", "D", "", "d", "7")
	was := slices.Clone(fields)
	for _, name := range []string{"Aa", "aa", "AA", "aA"} {
		wantGet(t, fields, name, "1", true)
	}
	wantGet(t, fields, "b", "2", true)
	wantGet(t, fields, "B", "2", true)
	wantGet(t, fields, "C-[~", "5", true)
	wantGet(t, fields, "C-{~", "", false)
	wantGet(t, fields, "c-[^", "", false)
	wantGet(t, fields, "d", "", true)
	for _, name := range []string{"", "a", "aaa", "Aa ", " Aa", "Aa:", "1", "\x00"} {
		wantGet(t, fields, name, "", false)
	}
	if !slices.Equal(fields, was) {
		t.Errorf("changed to %q", fields)
	}
}

// P12.4: no fields, and names that no header has.
func TestGetOfOddFields(t *testing.T) {
	wantGet(t, nil, "a", "", false)
	wantGet(t, nil, "", "", false)
	wantGet(t, []api.Field{}, "a", "", false)
	wantGet(t, pairs("", "1"), "", "1", true)
	wantGet(t, pairs("", "1"), "a", "", false)
	wantGet(t, pairs("a", "1", "", "2", "", "3"), "", "2", true)
	wantGet(t, pairs("a b", " 1 ", "\xc4", "2"), "A B", " 1 ", true)
	wantGet(t, pairs("a b", " 1 ", "\xc4", "2"), "\xe4", "", false)
	wantGet(t, pairs("a b", " 1 ", "\xc4", "2"), "\xc4", "2", true)
}

// P12.4: every byte against every byte: only letters have a second one that is the same.
func TestSameOfEveryByte(t *testing.T) {
	const small, capital = "abcdefghijklmnopqrstuvwxyz", "ABCDEFGHIJKLMNOPQRSTUVWXYZ"
	for i := range 256 {
		for j := range 256 {
			a, b := string([]byte{byte(i)}), string([]byte{byte(j)})
			k, l := strings.Index(small, a), strings.Index(capital, b)
			m, n := strings.Index(capital, a), strings.Index(small, b)
			same := i == j || k >= 0 && k == l || m >= 0 && m == n
			for _, x := range [][2]string{{"", ""}, {"x", "X"}, {"", "-\xff"}, {"\xc3", "Q"}} {
				one, two := x[0]+a+x[1], x[0]+b+x[1]
				if header.Same(one, two) != same {
					t.Errorf("Same(%q, %q) = %t", one, two, !same)
				}
			}
		}
	}
}

// P12.4: texts of many bytes, of unlike lengths, and those that are the same by other rules.
func TestSame(t *testing.T) {
	for _, x := range []struct {
		a, b string
		same bool
	}{
		{"", "", true}, {"", "a", false}, {"a", "", false}, {"a", "A", true}, {"a", "aa", false}, {"aa", "a", false}, {"aA", "Aa", true},
		{"Content-Type", "CONTENT-tYPE", true}, {"Content-Type", "Content_Type", false}, {"Content-Type", "Content-Typ", false}, {"Content-Typ", "Content-Type", false},
		{"@", "`", false}, {"[", "{", false}, {"Z", "z", true}, {"]", "}", false}, {"^", "~", false}, {"_", "\x7f", false},
		{"\u00c4", "\u00e4", false}, {"k", "\u212a", false}, {"\u212a", "K", false}, {"s", "\u017f", false}, {"\xff", "\xfe", false}, {"\xff", "\ufffd", false},
		{"a\x00", "A\x00", true}, {"a\x00b", "a\x00c", false}, {"a ", "a", false}, {"A b", "a B", true},
	} {
		if header.Same(x.a, x.b) != x.same || header.Same(x.b, x.a) != x.same {
			t.Errorf("Same(%q, %q) is not %t", x.a, x.b, x.same)
		}
	}
	long := strings.Repeat("aBcDe", 5000)
	if !header.Same(long, strings.ToUpper(long)) || header.Same(long+"a", strings.ToUpper(long)+"b") || header.Same("a"+long, "b"+long) {
		t.Error("long texts")
	}
}

// P12.4: blanks at the ends, of both kinds, and within.
func TestTrim(t *testing.T) {
	for _, x := range [][2]string{
		{"", ""}, {" ", ""}, {"\t", ""}, {" \t \t", ""}, {"a", "a"}, {" a", "a"}, {"a ", "a"}, {" a ", "a"}, {"\ta\t", "a"}, {" \t a\t \t", "a"},
		{"a b", "a b"}, {" a \t b ", "a \t b"}, {"a\tb", "a\tb"}, {"  a  b  c  ", "a  b  c"},
		{"\n", "\n"}, {"\r", "\r"}, {" \r\n ", "\r\n"}, {"\x0ba\x0c", "\x0ba\x0c"}, {"\x00 \x00", "\x00 \x00"},
		{"\u00a0a\u00a0", "\u00a0a\u00a0"}, {"\u2003", "\u2003"}, {" \u2003 ", "\u2003"}, {" \u00e4 ", "\u00e4"}, {" \U0001f600 ", "\U0001f600"}, {" \ufffd ", "\ufffd"},
		{" \xff ", "\xff"}, {"\xff", "\xff"}, {" \xe4\xb8 ", "\xe4\xb8"}, {" \xf0\x9f ", "\xf0\x9f"}, {" \x80\t", "\x80"}, {"\xc3 \xa4", "\xc3 \xa4"}, {" \xc3 ", "\xc3"},
	} {
		if s := header.Trim(x[0]); s != x[1] {
			t.Errorf("Trim(%q) = %q, not %q", x[0], s, x[1])
		}
	}
	blanks := strings.Repeat("\t  ", 9999)
	if header.Trim(blanks) != "" || header.Trim(blanks+"a"+blanks+"b"+blanks) != "a"+blanks+"b" {
		t.Error("many blanks")
	}
}

// P12.4: every byte between blanks, and all short rows of bytes of many kinds, whole runes and broken ones among them.
func TestTrimOfEveryByte(t *testing.T) {
	for i := range 256 {
		b := string([]byte{byte(i)})
		wanted := b
		if i == 9 || i == 32 {
			wanted = ""
		}
		if s := header.Trim(" \t" + b + "\t "); s != wanted {
			t.Errorf("Trim around %q = %q", b, s)
		}
	}
	rows(6, "a \t\xc3\xa4\xe2\xf0", func(b string) {
		begin, end := 0, len(b)
		for begin < end && (b[begin] == ' ' || b[begin] == '\t') {
			begin++
		}
		for begin < end && (b[end-1] == ' ' || b[end-1] == '\t') {
			end--
		}
		if s := header.Trim(b); s != b[begin:end] {
			t.Fatalf("Trim(%q) = %q", b, s)
		}
	})
}
