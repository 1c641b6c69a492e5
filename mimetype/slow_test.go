package mimetype_test

import (
	"regexp"
	"slices"
	"strings"
	"testing"

	"winkle/api"
	"winkle/mimetype"
)

const (
	smallLetters   = "abcdefghijklmnopqrstuvwxyz"
	capitalLetters = "ABCDEFGHIJKLMNOPQRSTUVWXYZ"
)

// The chapter's words as patterns, of texts in which each byte is a rune of the same number.
const (
	tokenWord  = "[!#$%&'*+.0-9A-Z^_`a-z{|}~-]+"
	quotedWord = `"(?:[^"\\]|\\.)*"`
)

// commentWord is a comment with at most so many in one another.
func commentWord(deep int) string {
	if deep == 1 {
		return `\((?:[^()\\]|\\.)*\)`
	}
	return `\((?:[^()\\]|\\.|` + commentWord(deep-1) + `)*\)`
}

// slowReader reads by patterns, with the whole value in sight.
type slowReader struct {
	whole, param, quoted, base64, plain *regexp.Regexp
}

// newSlow makes one for comments of at most so many in one another.
func newSlow(deep int) slowReader {
	space := `(?:[\t ]|` + commentWord(deep) + `)*`
	pattern := func(s string) *regexp.Regexp {
		return regexp.MustCompile(`(?s)\A` + strings.NewReplacer("B", space, "T", tokenWord, "Q", quotedWord).Replace(s))
	}
	return slowReader{
		whole:  pattern(`B(T)B/B(T)B((?:;BTB=B(?:T|Q)B)*)\z`),
		param:  pattern(`;B(T)B=B(T|Q)B`),
		quoted: pattern(`B(?i:quoted-printable)B\z`),
		base64: pattern(`B(?i:base64)B\z`),
		plain:  pattern(`B(?i:7bit|8bit|binary|)B\z`),
	}
}

// Of few comments a smaller one tells the same, and sooner.
var slowDeep, slowFlat = newSlow(32), newSlow(3)

// slowFor is the slow reader for a value.
func slowFor(value string) slowReader {
	if strings.Count(value, "(") > 3 {
		return slowDeep
	}
	return slowFlat
}

// widen makes a rune of each byte, and narrow a byte of each rune again.
func widen(s string) string {
	out := make([]rune, len(s))
	for i := range len(s) {
		out[i] = rune(s[i])
	}
	return string(out)
}

func narrow(s string) string {
	var out []byte
	for _, r := range s {
		out = append(out, byte(r))
	}
	return string(out)
}

// slowLower is Lower by the alphabet.
func slowLower(s string) string {
	out := []byte(s)
	for i, b := range out {
		if n := strings.IndexByte(capitalLetters, b); n >= 0 {
			out[i] = smallLetters[n]
		}
	}
	return string(out)
}

// said is what a parameter's value says.
func said(value string) string {
	if value[0] != '"' {
		return value
	}
	value = value[1 : len(value)-1]
	return regexp.MustCompile(`(?s)\\(.)`).ReplaceAllString(value, "$1")
}

// slowType is Type by patterns.
func slowType(value string) (api.Type, bool) {
	s := slowFor(value)
	m := s.whole.FindStringSubmatch(widen(value))
	if m == nil {
		return api.Type{}, false
	}
	t := api.Type{Main: slowLower(m[1]), Sub: slowLower(m[2])}
	for rest := m[3]; rest != ""; {
		p := s.param.FindStringSubmatch(rest)
		t.Params = append(t.Params, api.Field{Name: slowLower(p[1]), Value: narrow(said(p[2]))})
		rest = rest[len(p[0]):]
	}
	return t, true
}

// slowEncoding is Encoding by patterns.
func slowEncoding(value string) int {
	s := slowFor(value)
	value = widen(value)
	switch {
	case s.base64.MatchString(value):
		return api.EncBase64
	case s.quoted.MatchString(value):
		return api.EncQuoted
	case s.plain.MatchString(value):
		return api.EncPlain
	}
	return api.EncOther
}

// short is a text that may be shown.
func short(b string) string {
	if len(b) > 200 {
		return b[:200] + " .."
	}
	return b
}

// same tells whether two types are the same; an empty list and nil are.
func same(a, b api.Type) bool {
	return a.Main == b.Main && a.Sub == b.Sub && slices.Equal(a.Params, b.Params)
}

// wantType holds Type's answer against what is wanted.
func wantType(t *testing.T, value string, wanted api.Type, ok bool) {
	t.Helper()
	if x, o := mimetype.Type(value); !same(x, wanted) || o != ok {
		t.Fatalf("Type(%q) = %q %t, not %q %t", short(value), x, o, wanted, ok)
	}
}

// wantEncoding holds Encoding's answer against what is wanted.
func wantEncoding(t *testing.T, value string, kind int) {
	t.Helper()
	if k := mimetype.Encoding(value); k != kind {
		t.Fatalf("Encoding(%q) = %d, not %d", short(value), k, kind)
	}
}

// hold holds Type and Encoding against the slow ones, and tells whether the value is a type.
func hold(t *testing.T, value string) bool {
	t.Helper()
	x, ok := slowType(value)
	wantType(t, value, x, ok)
	wantEncoding(t, value, slowEncoding(value))
	return ok
}

// rows hands on all rows of at most so many of these letters.
func rows(most int, letters string, do func(row string)) {
	var add func(row []byte)
	add = func(row []byte) {
		do(string(row))
		if len(row) < most {
			for i := range len(letters) {
				add(append(row, letters[i]))
			}
		}
	}
	add(nil)
}
