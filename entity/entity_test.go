package entity_test

import (
	"math/rand"
	"slices"
	"strings"
	"testing"

	"winkle/api"
	"winkle/entity"
)

// worth is a field's value and what it says.
type worth struct {
	value string
	says  api.Body
}

// types are values of Content-Type, and what they say of a body that stands as it is.
func types() []worth {
	return []worth{
		{"", file},
		{" ", file},
		{"(nothing)", file},
		{"oops", file},
		{"multipart", file},
		{"multipart/", file},
		{"/mixed; boundary=b", file},
		{"multipart; boundary=b", file},
		{"multipart/mixed; boundary=b;", file},
		{"multipart/mixed; boundary", file},
		{"multipart/mixed; boundary=", file},
		{`multipart/mixed; boundary="b`, file},
		{"multipart/mixed; boundary=b (", file},
		{"multipart/mixed boundary=b", file},
		{"multipart/mixed; boundary=b c", file},
		{"multipart/mixed; boundary=b:c", file},
		{"multipart/mixed, boundary=b", file},
		{"multipart.mixed/x; boundary=b", file},
		{"x-multipart/mixed; boundary=b", file},
		{"mixed/multipart; boundary=b", file},
		{"message/rfc822/x", file},
		{"message/rfc822;", file},
		{"rfc822", file},
		{"message", file},
		{"message/", file},
		{"/rfc822", file},
		{"multipart/mixed; boundary=b", multi("b")},
		{"multipart/mixed;boundary=b", multi("b")},
		{"Multipart/Mixed; boundary=b", multi("b")},
		{"multipart/alternative; boundary=b", multi("b")},
		{"multipart/x-y; boundary=b", multi("b")},
		{"multipart/rfc822; boundary=b", multi("b")},
		{"multipart/multipart; boundary=b", multi("b")},
		{`multipart/signed; micalg=x; protocol="a/b"; boundary=b`, multi("b")},
		{`multipart/related; boundary=b; type="text/html"`, multi("b")},
		{`multipart/mixed; boundary="b"`, multi("b")},
		{`multipart/mixed; boundary="\b"`, multi("b")},
		{`multipart/mixed; boundary="b c:d/=?"`, multi("b c:d/=?")},
		{"(x) multipart (y) / mixed ; boundary (z) = (boundary=c) b (boundary=d)", multi("b")},
		{"\tmultipart/mixed ;\tBOUNDARY=b\t", multi("b")},
		{"multipart/mixed; boundary=B", multi("B")},
		{"multipart/mixed; boundary=----=_Part_1", file},
		{`multipart/mixed; boundary="----=_Part_1"`, multi("----=_Part_1")},
		{"multipart/mixed; boundary=----_Part_1", multi("----_Part_1")},
		{"multipart/mixed", noBorder},
		{"multipart/rfc822", noBorder},
		{"MULTIPART/x", noBorder},
		{"multipart/mixed; border=b", noBorder},
		{"multipart/mixed; boundary*=b", noBorder},
		{"multipart/mixed; boundary*0=b", noBorder},
		{`multipart/mixed; x="boundary=b"`, noBorder},
		{`multipart/mixed; x="; boundary=b"`, noBorder},
		{"multipart/mixed (; boundary=b)", noBorder},
		{`multipart/mixed; boundary=""`, noBorder},
		{`multipart/mixed; boundary=" "`, noBorder},
		{`multipart/mixed; boundary="b "`, noBorder},
		{`multipart/mixed; boundary="b\""`, noBorder},
		{`multipart/mixed; boundary="b;c"`, noBorder},
		{"multipart/mixed; boundary=b!", noBorder},
		{"multipart/mixed; boundary=b*c", noBorder},
		{"message/rfc822", letter},
		{"Message/RFC822", letter},
		{" message / rfc822 ", letter},
		{"message(x)/(y)rfc822(z)", letter},
		{"message/rfc822; charset=x", letter},
		{"message/rfc822; boundary=b", letter},
		{`message/rfc822; name="a.eml"; boundary=""`, letter},
		{"message/partial", file},
		{"message/external-body; boundary=b", file},
		{"message/delivery-status", file},
		{"message/global", file},
		{"message/rfc8222", file},
		{"message/rfc82", file},
		{"message/x-rfc822", file},
		{"text/rfc822", file},
		{"multi/rfc822", file},
		{"rfc822/message", file},
		{"x-message/rfc822", file},
		{"text/plain", file},
		{"text/plain; boundary=b", file},
		{`text/plain; boundary=""`, file},
		{"text/html; charset=utf-8", file},
		{"text/mixed; boundary=b", file},
		{"application/octet-stream; name=message/rfc822", file},
		{`application/zip; name="multipart/mixed"`, file},
		{"image/png", file},
	}
}

// code is a value of Content-Transfer-Encoding and what it says.
type code struct {
	value string
	kind  int
}

// codes are values of Content-Transfer-Encoding.
func codes() []code {
	return []code{
		{"", api.EncPlain},
		{" \t", api.EncPlain},
		{"(base64)", api.EncPlain},
		{"7bit", api.EncPlain},
		{"8BIT", api.EncPlain},
		{"Binary", api.EncPlain},
		{" (x) 7bit (y)", api.EncPlain},
		{"base64", api.EncBase64},
		{"BASE64", api.EncBase64},
		{"Base64", api.EncBase64},
		{"\tbase64 ", api.EncBase64},
		{"(7bit) base64 (quoted-printable)", api.EncBase64},
		{"quoted-printable", api.EncQuoted},
		{"Quoted-Printable", api.EncQuoted},
		{"QUOTED-PRINTABLE (x (y))", api.EncQuoted},
		{"x-uu", api.EncOther},
		{"uuencode", api.EncOther},
		{"base-64", api.EncOther},
		{"base64;", api.EncOther},
		{"base64, 7bit", api.EncOther},
		{"base64 base64", api.EncOther},
		{"base (x) 64", api.EncOther},
		{"(base64", api.EncOther},
		{`"base64"`, api.EncOther},
		{"quoted printable", api.EncOther},
		{"7-bit", api.EncOther},
		{"9bit", api.EncOther},
		{"\r\nbase64", api.EncOther},
		{"\xff", api.EncOther},
	}
}

// with is what is found where a body that would be found so was written in an encoding.
func with(found api.Body, kind int) api.Body {
	switch {
	case kind == api.EncOther:
		return raw
	case found.Why != api.None:
		return found
	}
	found.Encoding = kind
	return found
}

// P19.1: the chapter's examples.
func TestExamples(t *testing.T) {
	is(t, nil, api.Body{Encoding: api.EncPlain, Kind: api.KindFile})
	is(t, typed("Multipart/Mixed; boundary=b"), api.Body{Encoding: api.EncPlain, Kind: api.KindMulti, Boundary: "b"})
	is(t, typed("multipart/mixed"), api.Body{Why: api.NoBorder})
	is(t, row("content-transfer-encoding", "BASE64", "Content-Type", "message/rfc822"), api.Body{Encoding: api.EncBase64, Kind: api.KindMail})
	is(t, coded("x-uu"), api.Body{Encoding: api.EncOther, Kind: api.KindRaw})
	is(t, typed("oops"), api.Body{Encoding: api.EncPlain, Kind: api.KindFile})
}

// P19.1: no fields, as nil and as an empty list, with fields in its room that are none of it; and fields of no name.
func TestNoFields(t *testing.T) {
	is(t, nil, file)
	is(t, []api.Field{}, file)
	is(t, typed("message/rfc822")[:0], file)
	is(t, typed("multipart/mixed")[:0], file)
	is(t, row("Content-Transfer-Encoding", "x-uu", "Content-Type", "message/rfc822")[:0], file)
	is(t, row("X", "y", "Content-Transfer-Encoding", "base64", "Content-Type", "message/rfc822")[:1], file)
	is(t, make([]api.Field, 3), file)
	is(t, row("", "message/rfc822", "", "base64"), file)
}

// P19.1: each of the types without an encoding, and of the encodings without a type.
func TestOneField(t *testing.T) {
	for _, x := range types() {
		is(t, typed(x.value), x.says)
	}
	for _, c := range codes() {
		is(t, coded(c.value), with(file, c.kind))
	}
}

// P19.1: each type with each encoding, whichever stands first: an unknown encoding lets nothing else be asked; beside NoBorder no encoding is told.
func TestBothFields(t *testing.T) {
	for _, x := range types() {
		for _, c := range codes() {
			is(t, row("Content-Type", x.value, "Content-Transfer-Encoding", c.value), with(x.says, c.kind))
			is(t, row("Content-Transfer-Encoding", c.value, "Content-Type", x.value), with(x.says, c.kind))
		}
	}
}

// P19.1: NoBorder with each encoding: all else is zero; and the unknown one, with which it is not asked.
func TestNoBorder(t *testing.T) {
	for _, value := range []string{"multipart/mixed", `multipart/mixed; boundary=""`, `multipart/mixed; boundary="b "`} {
		for _, encoding := range []string{"7bit", "8bit", "binary", "", "base64", "quoted-printable"} {
			is(t, row("Content-Transfer-Encoding", encoding, "Content-Type", value), api.Body{Encoding: 0, Kind: 0, Boundary: "", Why: 32})
		}
		is(t, row("Content-Transfer-Encoding", "x-uu", "Content-Type", value), api.Body{Encoding: 3, Kind: 1})
	}
}

// mixed is a multipart's type with a boundary in quotes, each byte of it behind a \ or none.
func mixed(boundary, mark string) []api.Field {
	var quoted strings.Builder
	for i := range len(boundary) {
		quoted.WriteString(mark + boundary[i:i+1])
	}
	return typed(`multipart/mixed; boundary="` + quoted.String() + `"`)
}

// cut holds that a boundary, in quotes, may be one or not.
func cut(t *testing.T, boundary string, may bool) {
	t.Helper()
	wanted := noBorder
	if may {
		wanted = multi(boundary)
	}
	is(t, mixed(boundary, `\`), wanted)
	if !strings.ContainsAny(boundary, `"\`) {
		is(t, mixed(boundary, ""), wanted)
	}
}

// P19.1: boundaries of each length up to above 70, and of great ones.
func TestBoundarysLength(t *testing.T) {
	for n := range 90 {
		cut(t, strings.Repeat("x", n), 1 <= n && n <= 70)
		cut(t, strings.Repeat(" ", n)+"x", n <= 69)
		cut(t, strings.Repeat("x", n)+" ", false)
		wanted := noBorder
		if n < 70 {
			wanted = multi("B" + strings.Repeat("y", n))
		}
		is(t, typed("multipart/mixed; boundary=B"+strings.Repeat("y", n)), wanted)
	}
	cut(t, strings.Repeat("x", 1000), false)
	cut(t, strings.Repeat("x", 65536), false)
}

// P19.1: each byte within a boundary, at its beginning and at its end, in quotes and not.
func TestBoundarysBytes(t *testing.T) {
	const marks = "'()+_,-./:=?"
	for i := range 256 {
		b := byte(i)
		one := string([]byte{b})
		letter := '0' <= b && b <= '9' || 'A' <= b && b <= 'Z' || 'a' <= b && b <= 'z'
		may := letter || strings.Contains(marks, one)
		cut(t, one, may)
		cut(t, "x"+one, may)
		cut(t, one+"x", may || b == ' ')
		cut(t, "x"+one+"y", may || b == ' ')
		cut(t, strings.Repeat("x", 69)+one, may)
		for _, value := range []string{one, "x" + one, one + "x", "x" + one + "y"} {
			hold(t, typed("multipart/mixed; boundary="+value))
			hold(t, typed(`multipart/mixed; boundary="`+value+`"`))
		}
	}
}

// P19.1: of two parameters boundary the first is asked, whatever the second is.
func TestTwoBoundaries(t *testing.T) {
	list := []worth{
		{"b", multi("b")},
		{`"c d"`, multi("c d")},
		{"B", multi("B")},
		{`""`, noBorder},
		{`"e "`, noBorder},
		{"f!", noBorder},
		{`"` + strings.Repeat("g", 70) + `"`, multi(strings.Repeat("g", 70))},
		{strings.Repeat("h", 71), noBorder},
	}
	for _, x := range list {
		for _, y := range list {
			for _, names := range [][2]string{{"boundary", "boundary"}, {"BOUNDARY", "boundary"}, {"boundary", "Boundary"}} {
				value := "; " + names[0] + "=" + x.value + "; " + names[1] + "=" + y.value
				is(t, typed("multipart/mixed"+value), x.says)
				is(t, typed("multipart/mixed; boundary2=z"+value), x.says)
				is(t, typed("multipart/mixed"+value+"; x=y"), x.says)
				is(t, typed("message/rfc822"+value), letter)
				is(t, typed("text/plain"+value), file)
				is(t, typed("multipart/mixed"+value+";"), file)
			}
		}
	}
}

// P19.2: the fields' names in small and capital letters.
func TestCapitalsInNames(t *testing.T) {
	for _, name := range spellings("content-type") {
		want(t, row(name, "message/rfc822"), letter)
	}
	for _, name := range someSpellings("Content-Transfer-Encoding") {
		for _, other := range someSpellings("Content-Type") {
			is(t, row(name, "base64", other, "message/rfc822"), with(letter, api.EncBase64))
			is(t, row(other, "multipart/mixed", name, "x-uu"), raw)
		}
	}
}

// P19.2: capital letters in the types, in the parameter's name and in the encodings; in the boundary they stand as they are.
func TestCapitalsInValues(t *testing.T) {
	for _, main := range spellings("multipart") {
		want(t, typed(main+"/MiXeD; boundary=bB"), multi("bB"))
		want(t, typed(main+"/MiXeD"), noBorder)
	}
	for _, value := range spellings("message/rfc822") {
		want(t, typed(value), letter)
	}
	for _, name := range spellings("boundary") {
		want(t, typed("multipart/mixed; "+name+"=bB"), multi("bB"))
	}
	for _, boundary := range spellings("abcdef") {
		is(t, typed("multipart/mixed; boundary="+boundary), multi(boundary))
	}
	for _, c := range []code{{"base64", api.EncBase64}, {"7bit", api.EncPlain}, {"8bit", api.EncPlain}, {"binary", api.EncPlain}, {"x-uu", api.EncOther}} {
		for _, value := range spellings(c.value) {
			is(t, coded(value), with(file, c.kind))
		}
	}
	for _, value := range spellings("quoted-printable") {
		want(t, coded(value), with(file, api.EncQuoted))
	}
}

// P19.1: names that are one byte other are other fields, and types that are one byte other are other types.
func TestNearly(t *testing.T) {
	for _, name := range near("Content-Type") {
		is(t, row(name, "message/rfc822"), file)
		is(t, row(name, "multipart/mixed", "content-type", "message/rfc822"), letter)
	}
	for _, name := range near("Content-Transfer-Encoding") {
		is(t, row(name, "base64"), file)
		is(t, row(name, "x-uu", "content-transfer-encoding", "base64"), with(file, api.EncBase64))
	}
	for _, value := range near("message/rfc822") {
		hold(t, typed(value))
	}
	for _, value := range near(`multipart/x; boundary="b c"`) {
		hold(t, typed(value))
	}
	for _, encoding := range []string{"base64", "quoted-printable", "7bit", "8bit", "binary"} {
		for _, value := range near(encoding) {
			hold(t, row("Content-Type", "multipart/x; boundary=b", "Content-Transfer-Encoding", value))
		}
	}
}

// P19.2: of several fields of one name the first one decides, whether or not it says anything.
func TestFurtherFields(t *testing.T) {
	for _, x := range types() {
		for _, y := range types() {
			is(t, row("Content-Type", x.value, "content-type", y.value), x.says)
		}
	}
	for _, c := range codes() {
		for _, d := range codes() {
			is(t, row("Content-Transfer-Encoding", c.value, "CONTENT-TRANSFER-ENCODING", d.value), with(file, c.kind))
			is(t, row("Content-Type", "multipart/mixed", "content-transfer-encoding", c.value, "Content-Transfer-Encoding", d.value, "Content-Type", "text/plain"), with(noBorder, c.kind))
			is(t, row("Content-Transfer-Encoding", c.value, "Content-Type", "message/rfc822", "content-type", "multipart/mixed", "content-transfer-encoding", d.value), with(letter, c.kind))
		}
	}
}

// others are fields that say nothing of a body, whatever their values would say elsewhere.
func others() []api.Field {
	return row(
		"", "",
		"Subject", "message/rfc822",
		"Content-Type-", "multipart/mixed",
		"X-Content-Type", "message/rfc822",
		"Content-Type ", "multipart/mixed",
		" Content-Type", "message/rfc822",
		"Content_Type", "message/rfc822",
		"Content", "message/rfc822",
		"Type", "message/rfc822",
		"Content-Encoding", "base64",
		"Transfer-Encoding", "x-uu",
		"Content-Transfer-Encodings", "x-uu",
		"Content-Disposition", "attachment; boundary=b",
		"boundary", "b",
		"MIME-Version", "1.0",
		"message/rfc822", "message/rfc822",
		"base64", "base64",
		"\xff", "\x00",
	)
}

// P19.2: other fields ahead, between and behind change nothing, one and all of them.
func TestOtherFields(t *testing.T) {
	all := others()
	is(t, all, file)
	for _, x := range types() {
		for _, c := range []code{{"", api.EncPlain}, {"base64", api.EncBase64}, {"quoted-printable", api.EncQuoted}, {"x-uu", api.EncOther}} {
			two := row("Content-Type", x.value, "Content-Transfer-Encoding", c.value)
			is(t, slices.Concat(all, two), with(x.says, c.kind))
			is(t, slices.Concat(two[:1], all, two[1:]), with(x.says, c.kind))
			is(t, slices.Concat(two, all), with(x.says, c.kind))
			is(t, slices.Concat(all, two[1:], all, two[:1], all, two), with(x.says, c.kind))
		}
	}
	for _, f := range all {
		is(t, []api.Field{f}, file)
		for at := range 3 {
			is(t, slices.Insert(row("Content-Type", "multipart/x; boundary=b", "Content-Transfer-Encoding", "base64"), at, f), with(multi("b"), api.EncBase64))
		}
	}
}

// P19.1, P19.2: many fields, and those of these names behind them.
func TestManyFields(t *testing.T) {
	for _, n := range []int{63, 64, 65, 1000, 20000} {
		var fields []api.Field
		for range n {
			fields = append(fields, api.Field{Name: "Received", Value: "message/rfc822"})
		}
		is(t, fields, file)
		fields = append(fields, row("Content-Transfer-Encoding", "quoted-printable", "Content-Type", "message/rfc822")...)
		is(t, fields, with(letter, api.EncQuoted))
	}
}

// P19.1: comments and blanks at all places of both values, and what is no comment.
func TestBetween(t *testing.T) {
	for _, between := range []string{"", " ", "\t", " \t ", "()", "(x)", "( (y) )", `(\))`, "(/;=)", `(")`, "(a)(b)", " (a) (b) "} {
		at := func(text string) string { return strings.ReplaceAll(text, "~", between) }
		is(t, typed(at("~multipart~/~mixed~;~boundary~=~b~")), multi("b"))
		is(t, typed(at(`~multipart~/~mixed~;~x~=~"boundary=c"~;~boundary~=~"b"~`)), multi("b"))
		is(t, typed(at("~multipart~/~mixed~;~x~=~y~")), noBorder)
		is(t, typed(at("~message~/~rfc822~")), letter)
		is(t, typed(at("~text~/~plain~")), file)
		is(t, coded(at("~base64~")), with(file, api.EncBase64))
		is(t, coded(at("~")), file)
		is(t, coded(at("~x-uu~")), raw)
	}
	for _, between := range []string{"(", ")", "(()", "())", `(\)`, "\n", "\r", "\x00", "\xa0", ",", `"`} {
		at := func(text string) string { return strings.ReplaceAll(text, "~", between) }
		for _, text := range []string{"~message/rfc822", "message~/rfc822", "message/~rfc822", "message/rfc822~"} {
			is(t, typed(at(text)), file)
		}
		is(t, coded(at("~base64")), raw)
		is(t, coded(at("base64~")), raw)
	}
}

// words are what rows of fields are made of by chance.
func words() (names, values []string) {
	names = []string{"Content-Type", "content-type", "CONTENT-TYPE", "Content-Transfer-Encoding", "content-transfer-encoding", "Content-Typ", "Content-Encoding", "To", ""}
	values = []string{"multipart", "Multipart", "message", "text", "rfc822", "RFC822", "mixed", "plain", "/", "/", ";", ";", "=", "=", "boundary", "Boundary", "BOUNDARY*", "b", "B", `"`, `"`, `""`, `"b"`, `"b "`, "b b", `\`, "(", ")", "(x)", " ", "\t", "base64", "BASE64", "quoted-printable", "7bit", "x-uu", "!", "\n", "\xff", "message/rfc822", "multipart/mixed; boundary=", "multipart/mixed; boundary=b", "multipart/mixed"}
	return names, values
}

// Rule 1, P19.1: fields by chance, against the slow reader.
func TestByChance(t *testing.T) {
	r := rand.New(rand.NewSource(19))
	names, values := words()
	one := func(list []string) string { return list[r.Intn(len(list))] }
	found := map[api.Body]int{}
	for range 60000 {
		var fields []api.Field
		for range r.Intn(5) {
			var value strings.Builder
			for range r.Intn(5) {
				value.WriteString(one(values))
			}
			fields = append(fields, api.Field{Name: one(names), Value: value.String()})
		}
		hold(t, fields)
		b := entity.Plan(fields)
		b.Boundary = ""
		found[b]++
	}
	// All that may be found, but for the encodings beside a KindFile, which are there many times over.
	for _, b := range []api.Body{raw, noBorder, letter, with(letter, api.EncBase64), file, with(file, api.EncBase64), with(file, api.EncQuoted), multi(""), with(multi(""), api.EncBase64)} {
		if found[b] == 0 {
			t.Errorf("%+v was never found", b)
		}
	}
}

// Rule 1: long values and deep comments.
func TestLongValues(t *testing.T) {
	const n = 1 << 18
	long := func(s string) string { return strings.Repeat(s, n) }
	want(t, typed("message/rfc822"+long(" ")), letter)
	want(t, typed("message/rfc822"+long("(x)")), letter)
	want(t, typed("message/rfc822"+long("; a=b")), letter)
	want(t, typed("multipart/x"+long("; a=b")+"; boundary=c"), multi("c"))
	want(t, typed("multipart/x"+long("; a=b")), noBorder)
	want(t, typed("multipart/x; boundary=b"+long("; boundary=c")), multi("b"))
	want(t, typed("multipart/"+long("x")+"; boundary=b"), multi("b"))
	want(t, typed(long("multipart")+"/x; boundary=b"), file)
	want(t, typed("message/rfc822"+long("(")), file)
	want(t, typed("message/rfc822"+strings.Repeat("(", 32)+strings.Repeat(")", 32)), letter)
	want(t, typed("message/rfc822"+strings.Repeat("(", 33)+strings.Repeat(")", 33)), file)
	want(t, coded(long(" ")+"base64"+long("\t")), with(file, api.EncBase64))
	want(t, coded(long("base64")), raw)
	want(t, coded(long("(")), raw)
	want(t, row(long("Content-Type"), "message/rfc822"), file)
}

// Rule 3: what was told stays as it was, whatever is done with the fields.
func TestFieldsAreNotKept(t *testing.T) {
	fields := row("Content-Type", "multipart/mixed; boundary=b", "Content-Transfer-Encoding", "base64")
	told := entity.Plan(fields)
	clear(fields)
	if wanted := with(multi("b"), api.EncBase64); told != wanted {
		t.Fatalf("%+v, not %+v", told, wanted)
	}
	want(t, fields, file)
}

// Rule 4: an answer does not hang on the calls ahead of it.
func TestByTurns(t *testing.T) {
	all := types()
	for i := range all {
		x, y := all[i], all[(i*7+3)%len(all)]
		want(t, typed(x.value), x.says)
		want(t, coded("x-uu"), raw)
		want(t, typed(y.value), y.says)
		want(t, nil, file)
		want(t, typed(x.value), x.says)
	}
}
