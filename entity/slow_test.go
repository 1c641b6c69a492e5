package entity_test

import (
	"regexp"
	"slices"
	"strings"
	"testing"

	"winkle/api"
	"winkle/entity"
)

// The chapters' words as patterns, of texts in which each byte is a rune of the same number. Comments are at most three in one another.
const (
	tokenWord  = "[!#$%&'*+.0-9A-Z^_`a-z{|}~-]+"
	quotedWord = `"(?:[^"\\]|\\.)*"`
	flatWord   = `\((?:[^()\\]|\\.)*\)`
	deepWord   = `\((?:[^()\\]|\\.|` + flatWord + `)*\)`
	spaceWord  = `(?:[\t ]|\((?:[^()\\]|\\.|` + deepWord + `)*\))*`
)

// pattern makes one of a whole text, in which B is what may stand between, T a token and Q a quoted text.
func pattern(s string) *regexp.Regexp {
	return regexp.MustCompile(`(?s)\A` + strings.NewReplacer("B", spaceWord, "T", tokenWord, "Q", quotedWord).Replace(s))
}

var (
	typeWord      = pattern(`B(T)B/B(T)B((?:;BTB=B(?:T|Q)B)*)\z`)
	paramWord     = pattern(`;B(T)B=B(T|Q)B`)
	multiWord     = pattern(`(?i:multipart)\z`)
	mailWord      = pattern(`(?i:message/rfc822)\z`)
	boundaryWord  = pattern(`(?i:boundary)\z`)
	borderWord    = pattern(`[A-Za-z0-9'()+_,./:=? -]{0,69}[A-Za-z0-9'()+_,./:=?-]\z`)
	base64Word    = pattern(`B(?i:base64)B\z`)
	quotedEncWord = pattern(`B(?i:quoted-printable)B\z`)
	plainWord     = pattern(`B(?i:7bit|8bit|binary|)B\z`)
	typeName      = pattern(`(?i:content-type)\z`)
	encodingName  = pattern(`(?i:content-transfer-encoding)\z`)
)

// widen makes a rune of each byte, and narrow a byte of each rune again.
func widen(s string) string {
	out := make([]rune, len(s))
	for i := range len(s) {
		out[i] = rune(s[i])
	}
	return string(out)
}

func narrow(s string) string {
	var out []byte
	for _, r := range s {
		out = append(out, byte(r))
	}
	return string(out)
}

// first is the value of the first field of such a name.
func first(fields []api.Field, name *regexp.Regexp) (string, bool) {
	for _, f := range fields {
		if name.MatchString(widen(f.Name)) {
			return widen(f.Value), true
		}
	}
	return "", false
}

// slowEncoding tells how a body was written.
func slowEncoding(fields []api.Field) int {
	value, ok := first(fields, encodingName)
	switch {
	case !ok, plainWord.MatchString(value):
		return api.EncPlain
	case base64Word.MatchString(value):
		return api.EncBase64
	case quotedEncWord.MatchString(value):
		return api.EncQuoted
	}
	return api.EncOther
}

// said is what a parameter's value says.
func said(value string) string {
	if strings.HasPrefix(value, `"`) {
		value = regexp.MustCompile(`(?s)\\(.)`).ReplaceAllString(value[1:len(value)-1], "$1")
	}
	return narrow(value)
}

// slowBoundary is the first parameter boundary, in a row of parameters.
func slowBoundary(params string) (string, bool) {
	for params != "" {
		p := paramWord.FindStringSubmatch(params)
		if boundaryWord.MatchString(p[1]) {
			return said(p[2]), true
		}
		params = params[len(p[0]):]
	}
	return "", false
}

// slowly tells what fields say of a body, by the chapter's words.
func slowly(fields []api.Field) api.Body {
	encoding := slowEncoding(fields)
	if encoding == api.EncOther {
		return api.Body{Encoding: api.EncOther, Kind: api.KindRaw}
	}
	value, ok := first(fields, typeName)
	m := typeWord.FindStringSubmatch(value)
	switch {
	case !ok, m == nil:
		return api.Body{Encoding: encoding, Kind: api.KindFile}
	case mailWord.MatchString(m[1] + "/" + m[2]):
		return api.Body{Encoding: encoding, Kind: api.KindMail}
	case !multiWord.MatchString(m[1]):
		return api.Body{Encoding: encoding, Kind: api.KindFile}
	}
	boundary, ok := slowBoundary(m[3])
	if !ok || !borderWord.MatchString(widen(boundary)) {
		return api.Body{Why: api.NoBorder}
	}
	return api.Body{Encoding: encoding, Kind: api.KindMulti, Boundary: boundary}
}

// want holds Plan's answer against what is wanted, again and again, and holds that the fields are as they were.
func want(t *testing.T, fields []api.Field, wanted api.Body) {
	t.Helper()
	room := fields[:cap(fields)]
	as := slices.Clone(room)
	for range 2 {
		if b := entity.Plan(fields); b != wanted {
			t.Fatalf("Plan(%q) = %+v, not %+v", fields, b, wanted)
		}
	}
	if !slices.Equal(room, as) {
		t.Fatalf("Plan(%q) changed them: %q", as[:len(fields)], room)
	}
}

// hold holds Plan against the slow one.
func hold(t *testing.T, fields []api.Field) {
	t.Helper()
	want(t, fields, slowly(fields))
}

// is holds that the fields say this of a body, by the slow one, too.
func is(t *testing.T, fields []api.Field, wanted api.Body) {
	t.Helper()
	if b := slowly(fields); b != wanted {
		t.Fatalf("%q: %+v, by the slow one, not %+v", fields, b, wanted)
	}
	want(t, fields, wanted)
}

// row makes fields of names and values by turns.
func row(texts ...string) []api.Field {
	var fields []api.Field
	for pair := range slices.Chunk(texts, 2) {
		fields = append(fields, api.Field{Name: pair[0], Value: pair[1]})
	}
	return fields
}

// typed and coded are headers of one field; multi, letter and file are what may be found without an encoding.
func typed(value string) []api.Field { return row("Content-Type", value) }

func coded(value string) []api.Field { return row("Content-Transfer-Encoding", value) }

func multi(boundary string) api.Body {
	return api.Body{Kind: api.KindMulti, Boundary: boundary}
}

var (
	letter   = api.Body{Kind: api.KindMail}
	file     = api.Body{Kind: api.KindFile}
	noBorder = api.Body{Why: api.NoBorder}
	raw      = api.Body{Encoding: api.EncOther, Kind: api.KindRaw}
)

// spellings are a text in small and capital letters in every way.
func spellings(text string) []string {
	list := []string{""}
	for i := range len(text) {
		small, capital := strings.ToLower(text[i:i+1]), strings.ToUpper(text[i:i+1])
		var longer []string
		for _, s := range list {
			longer = append(longer, s+small)
			if capital != small {
				longer = append(longer, s+capital)
			}
		}
		list = longer
	}
	return list
}

// someSpellings are a text as it stands, in small, in capital letters, and with each letter alone in the other size.
func someSpellings(text string) []string {
	small, capital := strings.ToLower(text), strings.ToUpper(text)
	list := []string{text, small, capital}
	for i := range len(text) {
		list = append(list, small[:i]+capital[i:i+1]+small[i+1:], capital[:i]+small[i:i+1]+capital[i+1:])
	}
	return list
}

// near are texts one byte away from a text: one byte turned into each other one (but for the other size of a letter), one left out, one put in.
func near(text string) []string {
	var list []string
	for i := range len(text) + 1 {
		for b := range 256 {
			one := string([]byte{byte(b)})
			list = append(list, text[:i]+one+text[i:])
			if i < len(text) && !strings.EqualFold(one, text[i:i+1]) {
				list = append(list, text[:i]+one+text[i+1:])
			}
		}
		if i < len(text) {
			list = append(list, text[:i]+text[i+1:])
		}
	}
	return list
}
