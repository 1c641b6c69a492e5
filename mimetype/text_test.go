package mimetype_test

import (
	"math/rand"
	"slices"
	"strings"
	"testing"

	"winkle/api"
	"winkle/mimetype"
)

// wantText holds Text's answer against what is wanted.
func wantText(t *testing.T, x api.Type, text string, ok bool) {
	t.Helper()
	if s, o := mimetype.Text(x); s != text || o != ok {
		t.Fatalf("Text(%q) = %q %t, not %q %t", x, short(s), o, short(text), ok)
	}
}

// wantParam holds Param's answer against what is wanted.
func wantParam(t *testing.T, x api.Type, name, value string, ok bool) {
	t.Helper()
	if v, o := mimetype.Param(x, name); v != value || o != ok {
		t.Fatalf("Param(%q) = %q %t, not %q %t", name, v, o, value, ok)
	}
}

// everyByte is a text of the bytes 0 to 255.
func everyByte() string {
	out := make([]byte, 256)
	for i := range out {
		out[i] = byte(i)
	}
	return string(out)
}

// P13.1: every byte alone and among others; only A to Z change.
func TestLower(t *testing.T) {
	all := everyByte()
	if s, w := mimetype.Lower(all), all[:65]+smallLetters+all[91:]; s != w {
		t.Errorf("%q, not %q", s, w)
	}
	for i := range 256 {
		b := string([]byte{byte(i)})
		w := b
		if n := strings.Index(capitalLetters, b); n >= 0 {
			w = smallLetters[n : n+1]
		}
		for _, x := range [][3]string{{"", "", ""}, {"A", "", "a"}, {"", "\xc3", ""}, {"\xe2\x84", "Z\x00", "\xe2\x84"}} {
			if s := mimetype.Lower(x[0] + b + x[1]); s != strings.Replace(x[0], "A", "a", 1)+w+strings.Replace(x[1], "Z", "z", 1) {
				t.Errorf("Lower(%q) = %q", x[0]+b+x[1], s)
			}
		}
	}
	for _, x := range [][2]string{
		{"", ""}, {"a", "a"}, {"A", "a"}, {"aBcD", "abcd"}, {"@AZ[", "@az["}, {"`az{", "`az{"}, {"\u00c4\u00d6", "\u00c4\u00d6"}, {"\u212aK", "\u212ak"}, {"\u0130I", "\u0130i"}, {"\u03a3", "\u03a3"}, {"A\xffB\xc9", "a\xffb\xc9"}, {"A\x00B", "a\x00b"}, {" A b ", " a b "}, {"123-_", "123-_"}, {capitalLetters + smallLetters, smallLetters + smallLetters},
	} {
		if s := mimetype.Lower(x[0]); s != x[1] || mimetype.Lower(s) != s {
			t.Errorf("Lower(%q) = %q, not %q", x[0], s, x[1])
		}
	}
	if long := strings.Repeat("aB\xc9", 50000); mimetype.Lower(long) != strings.ReplaceAll(long, "B", "b") {
		t.Error("a long text")
	}
}

// P13.1: no bytes, and every byte alone, and ahead of, within and behind a token.
func TestToken(t *testing.T) {
	const tokens = "!#$%&'*+-.0123456789" + capitalLetters + "^_`" + smallLetters + "{|}~"
	if len(tokens) != 94-15 {
		t.Fatal(len(tokens))
	}
	if mimetype.Token("") {
		t.Error("no bytes")
	}
	for i := range 256 {
		b := string([]byte{byte(i)})
		ok := strings.Contains(tokens, b)
		for _, s := range []string{b, "a" + b, b + "a", "a" + b + "a", b + b, "abc" + b + "def", strings.Repeat("a", 999) + b} {
			if mimetype.Token(s) != ok {
				t.Errorf("Token(%q) = %t", short(s), !ok)
			}
		}
		if mimetype.Token("\x00" + b) {
			t.Errorf("a byte 0 and %q", b)
		}
	}
	for _, s := range []string{" ", " a", "a ", "a b", "a\t", "\n", "a\r\n", "\x7f", "\x80", "\u00e4", "a/b", "a;", "\"a\"", "(a)", "a=1", "a,b", "a:b", "a?", "[a]", "<a>", "a@b", "a\\b"} {
		if mimetype.Token(s) {
			t.Errorf("Token(%q)", s)
		}
	}
	if !mimetype.Token(tokens) || !mimetype.Token("quoted-printable") || !mimetype.Token("x.y+z") {
		t.Error("tokens")
	}
}

// P13.3: the first one of a name, by capital and small letters of what is asked; a Type's own names as they stand.
func TestParam(t *testing.T) {
	x := kind("a", "b", "xy", "1", "z", "2", "xy", "3", "z", "", "e", "", "e", "4", "-[", "5")
	for _, name := range []string{"xy", "XY", "Xy", "xY"} {
		wantParam(t, x, name, "1", true)
	}
	wantParam(t, x, "Z", "2", true)
	wantParam(t, x, "e", "", true)
	wantParam(t, x, "-[", "5", true)
	for _, name := range []string{"", "x", "y", "xyz", "xy ", " xy", "-{", "1", "a", "\x00"} {
		wantParam(t, x, name, "", false)
	}
	none := kind("a", "b")
	for _, name := range []string{"", "a", "x", "X"} {
		wantParam(t, none, name, "", false)
		wantParam(t, api.Type{}, name, "", false)
		wantParam(t, api.Type{Params: []api.Field{}}, name, "", false)
	}
	capital := kind("a", "b", "X", "1", "x", "2", "Y", "3")
	wantParam(t, capital, "x", "2", true)
	wantParam(t, capital, "X", "2", true)
	wantParam(t, capital, "y", "", false)
	wantParam(t, capital, "Y", "", false)
	odd := kind("", "", "", "1", "", "2", "a b", " 3\x00", "\xc4", "4", "\xe4", "5", "\u212a", "6")
	wantParam(t, odd, "", "1", true)
	wantParam(t, odd, "A B", " 3\x00", true)
	wantParam(t, odd, "\xc4", "4", true)
	wantParam(t, odd, "\xe4", "5", true)
	wantParam(t, odd, "k", "", false)
}

// P13.4: values that are tokens, and values that are not.
func TestText(t *testing.T) {
	wantText(t, kind("text", "plain"), "text/plain", true)
	wantText(t, api.Type{Main: "a", Sub: "b", Params: []api.Field{}}, "a/b", true)
	for _, x := range [][2]string{
		{"1", "1"}, {"UTF-8", "UTF-8"}, {"aBc", "aBc"}, {"!#$%&'*+-.^_`{|}~", "!#$%&'*+-.^_`{|}~"}, {"", `""`}, {" ", `" "`}, {"1 2", `"1 2"`}, {" a", `" a"`}, {"a ", `"a "`}, {"\t", "\"\t\""}, {`"`, `"\""`}, {`\`, `"\\"`}, {`\"`, `"\\\""`}, {`"\`, `"\"\\"`}, {`a"b\c`, `"a\"b\\c"`}, {`"a"`, `"\"a\""`}, {"a/b", `"a/b"`}, {"(a)", `"(a)"`}, {"a;b=c", `"a;b=c"`}, {"\x00", "\"\x00\""}, {"\r\n", "\"\r\n\""}, {"\x7f", "\"\x7f\""}, {"\u00e4", "\"\u00e4\""}, {"\xff\xc3", "\"\xff\xc3\""},
	} {
		wantText(t, kind("a", "b", "x", x[0]), "a/b; x="+x[1], true)
		wantText(t, kind("a", "b", "y", "2", "x", x[0], "y", "3"), "a/b; y=2; x="+x[1]+"; y=3", true)
	}
	wantText(t, kind("multipart", "mixed", "boundary", "a b", "x", "1", "boundary", ""), `multipart/mixed; boundary="a b"; x=1; boundary=""`, true)
	wantText(t, kind("*", "1-2", "a*0*", "c"), "*/1-2; a*0*=c", true)
	const quoteAt, backAt = '"', '\\'
	all := everyByte()
	wantText(t, kind("a", "b", "x", all), `a/b; x="`+all[:quoteAt]+`\"`+all[quoteAt+1:backAt]+`\\`+all[backAt+1:]+`"`, true)
}

// P13.4: every byte as a value.
func TestTextOfEveryByte(t *testing.T) {
	for i := range 256 {
		b := string([]byte{byte(i)})
		value := `"` + b + `"`
		switch {
		case mimetype.Token(b):
			value = b
		case b == `"` || b == `\`:
			value = `"\` + b + `"`
		}
		wantText(t, kind("a", "b", "x", b), "a/b; x="+value, true)
	}
}

// P13.4: main, sub or a name that is no token, or has a capital letter.
func TestTextOfNone(t *testing.T) {
	wantText(t, api.Type{}, "", false)
	for _, s := range []string{"", "A", "aB", "Ba", "Z", " ", " a", "a ", "a b", "a/b", "a;", "a=", "\"a\"", "(a)", "a(b)", "\x00", "\n", "\x7f", "\x80", "\u00e4", "\xff", "a\\"} {
		wantText(t, kind(s, "b"), "", false)
		wantText(t, kind("a", s), "", false)
		wantText(t, kind(s, s), "", false)
		wantText(t, kind(s, "b", "x", "1"), "", false)
		wantText(t, kind("a", s, "x", "1"), "", false)
		wantText(t, kind("a", "b", s, "1"), "", false)
		wantText(t, kind("a", "b", s, ""), "", false)
		wantText(t, kind("a", "b", s, "1", "x", "1"), "", false)
		wantText(t, kind("a", "b", "x", "1", "y", "2", s, "3"), "", false)
	}
	for i := range 256 {
		b := string([]byte{byte(i)})
		ok := mimetype.Token(b) && !strings.Contains(capitalLetters, b)
		for _, x := range []api.Type{kind(b, "b"), kind("a", "x"+b), kind("a", "b", b+"y", "1")} {
			if s, o := mimetype.Text(x); o != ok || (s != "") != ok {
				t.Errorf("Text(%q) = %q %t", x, s, o)
			}
		}
	}
}

// P13.5: each word in small, capital and mixed letters, with what may stand between at its ends, and with what may not.
func TestEncoding(t *testing.T) {
	for word, kind := range map[string]int{"base64": api.EncBase64, "quoted-printable": api.EncQuoted, "7bit": api.EncPlain, "8bit": api.EncPlain, "binary": api.EncPlain} {
		for _, w := range []string{word, strings.ToUpper(word), word[:3] + strings.ToUpper(word[3:]), strings.ToUpper(word[:2]) + word[2:]} {
			for _, space := range []string{"", " ", "\t", "  \t", "()", "(a)", " (a) (b)\t", "((a)b)", `(\))`, nest(32, "x"), strings.Repeat(" (x)", 2000)} {
				wantEncoding(t, w+space, kind)
				wantEncoding(t, space+w, kind)
				wantEncoding(t, space+w+space, kind)
			}
			for at := 1; at < len(w); at++ {
				for _, s := range []string{" ", "\t", "()", "(a)", " (a) ", "\\", "-", "\x00"} {
					wantEncoding(t, w[:at]+s+w[at:], api.EncOther)
				}
				wantEncoding(t, w[:at], api.EncOther)
				wantEncoding(t, w[at:], api.EncOther)
			}
			for _, s := range []string{";", " ;", ";x=1", " a", "a", "(a)a", "\r\n", "\n", "\x00", "\xff", "\"", "/", ",", " " + w, w, "(", ")", " (a", "\\", "\xa0", nest(33, "")} {
				wantEncoding(t, w+s, api.EncOther)
				wantEncoding(t, s+w, api.EncOther)
			}
			wantEncoding(t, `"`+w+`"`, api.EncOther)
			wantEncoding(t, "("+w+")", api.EncPlain)
			wantEncoding(t, "x-"+w, api.EncOther)
		}
	}
}

// P13.5: nothing, and anything else.
func TestEncodingOfOthers(t *testing.T) {
	for _, s := range []string{"", " ", "\t", " \t ", "()", "(a)", " (a) ", "(a)(b)", "(base64)", `(\()`, nest(32, ""), strings.Repeat(" ", 9999)} {
		wantEncoding(t, s, api.EncPlain)
	}
	for _, s := range []string{"(", ")", "(a", " (", "(a)(", "()) ", `(\)`, `(\`, nest(33, ""), "x-uu", "x-uuencode", "uuencode", "base-64", "base32", "base", "64", "7-bit", "7 bit", "bit", "9bit", "16bit", "7bits", "quoted", "quoted_printable", "quotedprintable", "binary8", "none", "0", "\x00", "\n", "\r\n", "\xff", "\u00e4", "ba\u017fe64", "b\xe1se64", "/", "a/b", ";", "=", "\"\"", "\\"} {
		wantEncoding(t, s, api.EncOther)
		wantEncoding(t, " "+s+" ", api.EncOther)
		wantEncoding(t, "(b)"+s, api.EncOther)
	}
	for i := range 256 {
		b := string([]byte{byte(i)})
		for _, s := range []string{b, b + "7bit", "7bit" + b, "base64 " + b, b + " base64", "(" + b + ")", "(\\" + b + ")"} {
			hold(t, s)
		}
	}
}

// pick makes a text of some of these bytes.
func pick(r *rand.Rand, least, most int, bytes string) string {
	out := make([]byte, least+r.Intn(most-least+1))
	for i := range out {
		out[i] = bytes[r.Intn(len(bytes))]
	}
	return string(out)
}

// anyType makes a type that Text writes.
func anyType(r *rand.Rand) api.Type {
	const small = "!#$%&'*+-.0129^_`{|}~" + smallLetters
	values := []string{small + capitalLetters, "ab \t\"\\()/;=", everyByte()}
	x := kind(pick(r, 1, 6, small), pick(r, 1, 6, small))
	for range r.Intn(5) {
		x.Params = append(x.Params, api.Field{Name: pick(r, 1, 3, small), Value: pick(r, 0, 9, values[r.Intn(3)])})
	}
	return x
}

// P13.6: Type of Text is the type.
func TestTypeOfText(t *testing.T) {
	r := rand.New(rand.NewSource(13))
	for range 30000 {
		x := anyType(r)
		s, ok := mimetype.Text(x)
		if !ok {
			t.Fatalf("%q", x)
		}
		wantType(t, s, x, true)
		for _, p := range x.Params {
			first := slices.IndexFunc(x.Params, func(f api.Field) bool { return f.Name == p.Name })
			wantParam(t, x, strings.ToUpper(p.Name), x.Params[first].Value, true)
		}
	}
	x := kind("a", "b", "x", everyByte())
	for i := range 256 {
		x.Params = append(x.Params, api.Field{Name: "x", Value: string([]byte{byte(i)})}, api.Field{Name: "x", Value: string([]byte{'\\', byte(i), '"'})})
	}
	s, _ := mimetype.Text(x)
	wantType(t, s, x, true)
}

// anySpace makes what may stand between.
func anySpace(r *rand.Rand, deep int) string {
	var out strings.Builder
	for range r.Intn(3) {
		switch k := r.Intn(4); {
		case k < 2:
			out.WriteByte("\t "[k])
		case deep > 0:
			out.WriteString("(" + pick(r, 0, 2, "a;=/\"\x00\xff") + anySpace(r, deep-1) + `\` + pick(r, 1, 1, everyByte()) + anySpace(r, deep-1) + ")")
		}
	}
	return out.String()
}

// anyCase makes capital letters of some small ones.
func anyCase(r *rand.Rand, s string) string {
	out := []byte(s)
	for i, b := range out {
		if n := strings.IndexByte(smallLetters, b); n >= 0 && r.Intn(2) == 0 {
			out[i] = capitalLetters[n]
		}
	}
	return string(out)
}

// anyQuoted writes a quoted text in one of its ways.
func anyQuoted(r *rand.Rand, s string) string {
	if mimetype.Token(s) && r.Intn(2) == 0 {
		return s
	}
	out := []byte{'"'}
	for i := range len(s) {
		if s[i] == '"' || s[i] == '\\' || r.Intn(3) == 0 {
			out = append(out, '\\')
		}
		out = append(out, s[i])
	}
	return string(append(out, '"'))
}

// P13.2, P13.6: blanks, comments, capital letters, and the way in which a value is quoted, change nothing; one byte taken out, put in or changed is as the slow one tells.
func TestWritings(t *testing.T) {
	r := rand.New(rand.NewSource(131))
	for range 10000 {
		x := anyType(r)
		var out strings.Builder
		put := func(s string) { out.WriteString(s + anySpace(r, 3)) }
		put("")
		put(anyCase(r, x.Main))
		put("/")
		put(anyCase(r, x.Sub))
		for _, p := range x.Params {
			put(";")
			put(anyCase(r, p.Name))
			put("=")
			put(anyQuoted(r, p.Value))
		}
		value := out.String()
		wantType(t, value, x, true)
		at := r.Intn(len(value))
		hold(t, value)
		hold(t, value[:at]+value[at+1:])
		hold(t, value[:at]+pick(r, 1, 1, "a \"\\();=/\x00")+value[at:])
		hold(t, value[:at]+pick(r, 1, 1, everyByte())+value[at+1:])
	}
}
