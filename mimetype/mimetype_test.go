package mimetype_test

import (
	"mime"
	"slices"
	"strconv"
	"strings"
	"testing"

	"winkle/api"
	"winkle/mimetype"
)

// kind makes a type of main, sub, and of parameters' names and values by turns.
func kind(main, sub string, texts ...string) api.Type {
	t := api.Type{Main: main, Sub: sub}
	for i := 0; i < len(texts); i += 2 {
		t.Params = append(t.Params, api.Field{Name: texts[i], Value: texts[i+1]})
	}
	return t
}

// is holds it that a value is of this type, by the slow one, too.
func is(t *testing.T, value string, main, sub string, texts ...string) {
	t.Helper()
	wantType(t, value, kind(main, sub, texts...), true)
	if !hold(t, value) {
		t.Fatalf("%q: no type, by the slow one", short(value))
	}
}

// isNone holds it that a value is no type's, by the slow one, too.
func isNone(t *testing.T, value string) {
	t.Helper()
	wantType(t, value, api.Type{}, false)
	if hold(t, value) {
		t.Fatalf("%q: a type, by the slow one", short(value))
	}
}

// nest makes comments in one another, around a text.
func nest(deep int, within string) string {
	return strings.Repeat("(", deep) + within + strings.Repeat(")", deep)
}

// P13.1 to P13.5: the chapter's examples.
func TestExamples(t *testing.T) {
	is(t, `Text/HTML (a; b) ; Charset="a\"b"; x=1`, "text", "html", "charset", `a"b`, "x", "1")
	for _, s := range []string{"text", "text/", "a/b;", "a/b; x", `a/b; x="1`, "a/b ("} {
		isNone(t, s)
	}
	x := kind("a", "b", "x", "1 2")
	wantText(t, x, `a/b; x="1 2"`, true)
	wantText(t, kind("A", "b"), "", false)
	wantParam(t, x, "X", "1 2", true)
	wantEncoding(t, " BASE64 (x)", api.EncBase64)
	wantEncoding(t, "", api.EncPlain)
	wantEncoding(t, "x-uu", api.EncOther)
	if mimetype.Token("a b") {
		t.Error("a b")
	}
}

// P13.2: values as mails have them.
func TestTypeOfMails(t *testing.T) {
	is(t, "text/plain", "text", "plain")
	is(t, "text/plain; charset=us-ascii", "text", "plain", "charset", "us-ascii")
	is(t, "text/plain;charset=utf-8;format=flowed", "text", "plain", "charset", "utf-8", "format", "flowed")
	is(t, "text/plain; charset=us-ascii (Plain text)", "text", "plain", "charset", "us-ascii")
	is(t, "multipart/mixed; boundary=\"----=_Part_1 (2)\"", "multipart", "mixed", "boundary", "----=_Part_1 (2)")
	is(t, "multipart/mixed;\tboundary=\"a b\"", "multipart", "mixed", "boundary", "a b")
	is(t, "message/rfc822", "message", "rfc822")
	is(t, "application/x-zip; name=\"a.zip\"; x-mac-type=\"70674453\"", "application", "x-zip", "name", "a.zip", "x-mac-type", "70674453")
	is(t, "application/octet-stream; name*0*=utf-8''a%20b; name*1=c", "application", "octet-stream", "name*0*", "utf-8''a%20b", "name*1", "c")
	isNone(t, "text/plain; charset=utf-8;")
	isNone(t, "text/plain charset=utf-8")
	isNone(t, "text/plain, text/html")
	isNone(t, "multipart/mixed; boundary=a=b")
	isNone(t, "multipart/mixed; boundary=a:b")
	isNone(t, "image/gif; name=a b.gif")
}

// P13.2: parts that lack, and parts too many.
func TestTypeOfPieces(t *testing.T) {
	for _, s := range []string{
		"", " ", "\t", " \t ", "()", "(a)", " (a) (b)\t", "/", "//", ";", "=", "a", " a ", "(c)a", "a/", "a/ ", "a/(c)", "a/;x=1", "/b", " /b", "(a)/b", "/b;x=1", " /b;x=1",
		"a//b", "a/b/", "a/b/c", "a/b/c;x=1", "a/b;x=1/", "a/b/;x=1", "a b", "a b/c", "a/b c", "a;b", "a;x=1", "a=b", "ab;", "a:b", "a\\/b",
		";a/b", "; a/b", ";a/b;x=1", "x=1;a/b", "a/b;", "a/b; ", "a/b;(c)", "a/b;;", "a/b;;x=1", "a/b; ;x=1", "a/b;(c);x=1", "a/b;x=1;", "a/b;x=1; ", "a/b;x=1;(c)", "a/b;x=1;;", "a/b;x=1;;y=2", "a/b;x=1; ;y=2",
		"a/b;=1", "a/b; =1", "a/b;=", "a/b;x", "a/b; x ", "a/b;x;y=2", "a/b;x(c)", "a/b;x 1", "a/b;x=", "a/b;x= ", "a/b;x=(c)", "a/b;x=;y=2", "a/b;x= ;y=2", "a/b;x==1", "a/b;x= =1", "a/b;x=1=2", "a/b;x=1=", "a/b;x=1 2", "a/b;x=1(c)2", "a/b;x=1,2", "a/b;x=1,y=2", "a/b;x=1 y=2", "a/b;x y=1",
		"a/b x=1", "a/b=1", "a/b,", "a/b.;", "a/b?x=1", "a/b)", ")a/b", "a/b;x=1)", "a/b;)x=1", "<a/b>", "[a/b]", "@a/b", "a/b;x=<1>", "a/b;x=[1]", "a/b;x=@", "a/b;x=?", "a/b;x=\\1", "a/b;x=a\\",
	} {
		isNone(t, s)
	}
	is(t, "a/b", "a", "b")
	is(t, "a/b;x=1", "a", "b", "x", "1")
	is(t, "a/b;x=1;y=2", "a", "b", "x", "1", "y", "2")
	is(t, "*/*;*=*", "*", "*", "*", "*")
	is(t, "!#$%&'*+-./^_`{|}~;!#$%&'*+-.=^_`{|}~", "!#$%&'*+-.", "^_`{|}~", "!#$%&'*+-.", "^_`{|}~")
	is(t, "a/b;1=2", "a", "b", "1", "2")
}

// P13.2: all short rows of the bytes that mean something, in each part of a value.
func TestTypeOfRows(t *testing.T) {
	types := 0
	for _, x := range []struct {
		ahead, behind string
		most          int
	}{
		{"", "", 5}, {"a/b", "", 4}, {"a/b;", "=1", 4}, {"a/b;x=", "", 4}, {"a/b;x=1", "", 4}, {`a/b;x="`, `"`, 4}, {"a/b(", ")", 4}, {`(`, ")a/b", 4},
	} {
		rows(x.most, "aB/;=\"\\( )", func(row string) {
			if hold(t, x.ahead+row+x.behind) {
				types++
			}
		})
	}
	if types < 3000 {
		t.Errorf("only %d types", types)
	}
}

// P13.2, P13.5: all short rows of what Encoding's words may have around them.
func TestEncodingOfRows(t *testing.T) {
	rows(4, "7\t( )\\\";", func(row string) {
		hold(t, row)
		hold(t, row+"7bit")
		hold(t, "Base64"+row)
		hold(t, "("+row+")binary")
	})
}

// places is a value that has everything, with a 0 where something may stand between.
const places = "\x00Main\x00/\x00Sub\x00;\x00Name\x00=\x00Value\x00;\x00other\x00=\x00\"q (\\\"\"\x00"

// fill puts a text at one place of many, and another one at all others.
func fill(at int, text, others string) string {
	var out strings.Builder
	for i, piece := range strings.Split(places, "\x00") {
		if i > 0 && i-1 == at {
			out.WriteString(text)
		} else if i > 0 {
			out.WriteString(others)
		}
		out.WriteString(piece)
	}
	return out.String()
}

// allPlaces is how many places there are.
var allPlaces = strings.Count(places, "\x00")

// P13.2, P13.6: blanks of both kinds and comments, none, one and many, at every place, and at all.
func TestBetween(t *testing.T) {
	fillers := []string{
		"", " ", "\t", "  ", " \t \t", "()", "(a)", " (a) ", "\t(a)\t", "(a)(b)", "( a ) ( b )", "()()()", "((a)b(c))", "(;)", "(/)", "(=)", "(\")", `(\()`, `(\))`, `(\\)`, `(\a)`, "(\x00\n\r\xff)", "(\xc3\xa4)",
		strings.Repeat(" \t", 5000), strings.Repeat("(a)", 3000), nest(32, ""), nest(32, "a"),
	}
	for at := range allPlaces {
		for _, f := range fillers {
			for _, others := range []string{"", " ", "(x)\t"} {
				value := fill(at, f, others)
				wantType(t, value, kind("main", "sub", "name", "Value", "other", `q ("`), true)
				if len(f) < 100 && !hold(t, value) {
					t.Fatal(value)
				}
			}
		}
	}
	for _, f := range fillers {
		wantType(t, fill(-1, "", f), kind("main", "sub", "name", "Value", "other", `q ("`), true)
	}
}

// P13.2: other bytes there, and what is no comment.
func TestNotBetween(t *testing.T) {
	for at := range allPlaces {
		for i := range 256 {
			for _, others := range []string{"", " "} {
				b := string([]byte{byte(i)})
				// Ahead of a token or behind it, a byte may be one more of its own.
				ok := hold(t, fill(at, b, others))
				if ok && others == " " && i != 9 && i != 32 && !mimetype.Token(b) {
					t.Fatalf("%q", fill(at, b, others))
				}
				if hold(t, fill(at, " "+b+" ", others)) != (i == 9 || i == 32) {
					t.Fatalf("%q", fill(at, " "+b+" ", others))
				}
			}
		}
		for _, f := range []string{"\n", "\r\n ", "\x00", "\v", "\f", "\x7f", "\x80", "\xa0", "\xc2\xa0", "\ufeff", "(", ")", "(a", "a)", "())", "(()", "(()))", ")(", `(\)`, `(\`, `(\\\)`, `()\`, `\()`, `("(")`, "(a))(b)", nest(33, ""), nest(33, "a"), nest(32, "()"), "a (b)", "x()y"} {
			isNone(t, fill(at, " "+f+" ", " "))
		}
	}
}

// P13.2: comments.
func TestComments(t *testing.T) {
	for _, c := range []string{
		"()", "(a)", "( )", "(())", "((a))", "(a(b)c)", "(()())", "((())(()))", "(a)(b)", "() ()", "((a) (b))", `(\()`, `(\))`, `(\\)`, `(\a)`, `(\ )`, `(\")`, `(\(\)\\)`, `(a\))`, `((\)))`, `((a)\))`, `(\\\))`, `(")`, `("a)`, "(a;x=1)", "(/)", "(=)", "(a/b)", "(\x00)", "(\n)", "(\r\n)", "(\xff)", "(\u00e4\u4e16)",
		nest(31, ""), nest(32, ""), nest(31, "a"), nest(32, "a"), nest(32, `\(`), nest(32, `\)`), nest(31, "()()()"), nest(31, "(a)b(c)"), "(" + strings.Repeat(nest(31, "a"), 40) + ")", strings.Repeat("()", 33), strings.Repeat("(a)", 33), strings.Repeat("(a) ", 500), strings.Repeat(nest(32, "a"), 5), "(" + strings.Repeat("()", 33) + ")", "(" + strings.Repeat(`\(`, 33) + ")",
	} {
		is(t, c+"a/b", "a", "b")
		is(t, "a/b"+c, "a", "b")
		is(t, "a"+c+"/b; x=1", "a", "b", "x", "1")
		is(t, "a/b;x"+c+"="+c+"1"+c, "a", "b", "x", "1")
		isNone(t, c)
		isNone(t, "a/b;"+c)
		isNone(t, "a"+c+"a/b")
		isNone(t, "a/b;x=1"+c+"2")
		wantEncoding(t, c, api.EncPlain)
		wantEncoding(t, c+"base64"+c, api.EncBase64)
		wantEncoding(t, "base"+c+"64", api.EncOther)
	}
}

// P13.2, P13.5: what is no comment.
func TestNoComments(t *testing.T) {
	for _, c := range []string{
		"(", ")", "((", "))", "(a", "a)", "(()", "())", "(a))", "((a)", "(a(b)", "(a)b)", `(\)`, `(\`, `(a\`, `((\))`, `(\\\)`, `()\`, `\()`, `\(`, `\)`, "()(", "())(", "()())", "(a)(", "(\x00", "(\xff",
		nest(33, ""), nest(33, "a"), nest(34, ""), nest(100, "a"), nest(32, "()"), nest(32, "(a)b"), nest(31, "()(())"), "(a)" + nest(33, ""), nest(33, "") + "(a)", strings.Repeat("(", 31), strings.Repeat("(", 32), strings.Repeat("(", 33), strings.Repeat("(", 33) + strings.Repeat(")", 32), strings.Repeat("(", 32) + strings.Repeat(")", 31), strings.Repeat("(", 32) + strings.Repeat(")", 33),
	} {
		isNone(t, c)
		isNone(t, c+"a/b")
		isNone(t, "a/b"+c)
		isNone(t, "a"+c+"/b")
		isNone(t, "a/b;x="+c+"1")
		isNone(t, "a/b;x=1"+c)
		isNone(t, "a/b;"+c+"x=1")
		wantEncoding(t, c, api.EncOther)
		wantEncoding(t, c+"base64", api.EncOther)
		wantEncoding(t, "base64"+c, api.EncOther)
	}
}

// P13.2: every byte within a comment, and behind a \ there.
func TestEveryByteInAComment(t *testing.T) {
	for i := range 256 {
		b := string([]byte{byte(i)})
		for _, x := range []struct{ ahead, behind string }{{"(", ")"}, {"(a", "a)"}, {"((", "))"}, {"(\xc3", ")"}, {"(()", "())"}} {
			value := "a/b" + x.ahead + b + x.behind
			// A \ takes what stands behind it, be that an a or the end of the comment.
			odd := b == "(" || b == ")" || b == `\` && x.behind != "a)"
			if hold(t, value) == odd {
				t.Fatalf("%q", value)
			}
			is(t, "a/b"+x.ahead+`\`+b+x.behind, "a", "b")
			wantEncoding(t, x.ahead+`\`+b+x.behind+"7bit", api.EncPlain)
		}
	}
}

// P13.2: quoted texts.
func TestQuoted(t *testing.T) {
	for _, x := range [][2]string{
		{`""`, ``}, {`" "`, ` `}, {`"a"`, `a`}, {`"A b"`, `A b`}, {`"a;b=c/d"`, `a;b=c/d`}, {`"(a)"`, `(a)`}, {`"("`, `(`}, {`")"`, `)`}, {`"\""`, `"`}, {`"\\"`, `\`}, {`"\\\""`, `\"`}, {`"\a\b"`, `ab`}, {`"a\ b"`, `a b`}, {`"\(\)"`, `()`}, {`"\\\\"`, `\\`}, {`"a\"b\"c"`, `a"b"c`}, {"\"\r\n\"", "\r\n"}, {"\"\x00\\\x00\"", "\x00\x00"}, {"\"\xff\\\xff\"", "\xff\xff"}, {"\"\u00e4\\\u4e16\"", "\u00e4\u4e16"}, {`"  a  "`, `  a  `}, {"\"\t\"", "\t"},
	} {
		is(t, "a/b;x="+x[0], "a", "b", "x", x[1])
		is(t, "a/b;x="+x[0]+";y=2", "a", "b", "x", x[1], "y", "2")
		is(t, "a/b; x = "+x[0]+" ", "a", "b", "x", x[1])
		is(t, "a/b;x=(c)"+x[0]+"(d)", "a", "b", "x", x[1])
		is(t, "a/b;x="+x[0]+";y="+x[0], "a", "b", "x", x[1], "y", x[1])
		for _, behind := range []string{"a", "=", `"`, `""`, `"a"`, ` "a"`, " a", "(c)a", "/", ",", `\`, ")", "(", "\x00", "\n", "\xff"} {
			isNone(t, "a/b;x="+x[0]+behind)
		}
		isNone(t, x[0])
		isNone(t, x[0]+"/b")
		isNone(t, "a/"+x[0])
		isNone(t, "a/"+x[0]+";x=1")
		isNone(t, "a/b"+x[0])
		isNone(t, "a/b;"+x[0])
		isNone(t, "a/b;"+x[0]+"=1")
		isNone(t, "a/b;x"+x[0]+"=1")
		isNone(t, "a/b;x=a"+x[0])
		isNone(t, "a"+x[0]+"/b")
		wantEncoding(t, x[0], api.EncOther)
	}
	for _, s := range []string{`"`, `"a`, `"a\`, `"\`, `"\"`, `"\\\"`, `"a\"`, `a"`, `\"a"`, `"\\\`, `"a\";y="2`, "'a b'"} {
		isNone(t, "a/b;x="+s)
		isNone(t, "a/b;x=1;y="+s)
	}
	is(t, `a/b;x="a\";y=\"2"`, "a", "b", "x", `a";y="2`)
	is(t, `a/b;x='a'`, "a", "b", "x", `'a'`)
	wantEncoding(t, `"base64"`, api.EncOther)
}

// P13.2: every byte within a quoted text, and behind a \ there.
func TestEveryByteInAQuotedText(t *testing.T) {
	for i := range 256 {
		b := string([]byte{byte(i)})
		for _, x := range []struct{ ahead, behind string }{{"", ""}, {"a", ""}, {"", "a"}, {"a", "a"}, {"\xc3", ""}, {" ", " "}} {
			value := `a/b;x="` + x.ahead + b + x.behind + `"`
			if b == `"` || b == `\` {
				hold(t, value)
			} else {
				is(t, value, "a", "b", "x", x.ahead+b+x.behind)
			}
			is(t, `a/b;x="`+x.ahead+`\`+b+x.behind+`"; y=2`, "a", "b", "x", x.ahead+b+x.behind, "y", "2")
		}
	}
	isNone(t, `a/b;x="""`)
	isNone(t, `a/b;x="\"`)
	isNone(t, `a/b;x="a"a"`)
	is(t, `a/b;x="\a"`, "a", "b", "x", "a")
}

// P13.2: every byte put in at every place of a value, and in place of every byte; among them those above 127.
func TestEveryByteEverywhere(t *testing.T) {
	const value = `(x\y) Ab/cD ;eF = "g\z (h" ;i=J(k)`
	is(t, value, "ab", "cd", "ef", "gz (h", "i", "J")
	inside := func(at int) bool {
		for _, piece := range []string{`(x\y)`, `"g\z (h"`, `(k)`} {
			if n := strings.Index(value, piece); n < at && at < n+len(piece) {
				return true
			}
		}
		return false
	}
	for at := range len(value) + 1 {
		for i := range 256 {
			b := string([]byte{byte(i)})
			hold(t, value[:at]+b+value[at:])
			if at < len(value) {
				hold(t, value[:at]+b+value[at+1:])
			}
			if i > 127 && hold(t, value[:at]+b+value[at:]) != inside(at) {
				t.Fatalf("%q", value[:at]+b+value[at:])
			}
		}
	}
}

// P13.2: a value cut behind each of its bytes, and ahead of each.
func TestCutValues(t *testing.T) {
	value := fill(-1, "", " (c\\)(d)) ")
	for at := range len(value) + 1 {
		hold(t, value[:at])
		hold(t, value[at:])
	}
}

// P13.2, P13.6: capital letters, in main, sub and names small, in values as they stand.
func TestCapitals(t *testing.T) {
	is(t, "TEXT/HTML;CHARSET=UTF-8", "text", "html", "charset", "UTF-8")
	is(t, "tExT/hTmL;ChArSeT=uTf-8", "text", "html", "charset", "uTf-8")
	is(t, `A/Z;A="A\Z";Z=Z`, "a", "z", "a", "AZ", "z", "Z")
	is(t, "A-1/B+C.D;E_F*=G", "a-1", "b+c.d", "e_f*", "G")
	is(t, capitalLetters+"/"+capitalLetters+";"+capitalLetters+"="+capitalLetters, smallLetters, smallLetters, smallLetters, capitalLetters)
	small := "text/html; charset=X; name=\"Y\""
	for i := range len(small) {
		if n := strings.IndexByte(smallLetters, small[i]); n >= 0 {
			is(t, small[:i]+capitalLetters[n:n+1]+small[i+1:], "text", "html", "charset", "X", "name", "Y")
		}
	}
}

// P13.2: parameters of the same name stand all there, in their order.
func TestSameNames(t *testing.T) {
	is(t, "a/b;x=1;x=2;X=3;y=4;x=1", "a", "b", "x", "1", "x", "2", "x", "3", "y", "4", "x", "1")
	x, _ := mimetype.Type("a/b;y=0;X=1;x=2")
	wantParam(t, x, "x", "1", true)
}

// P13.2, P13.3: many parameters.
func TestManyParams(t *testing.T) {
	var value strings.Builder
	value.WriteString("a/b")
	wanted := kind("a", "b")
	for i := range 5000 {
		n := strconv.Itoa(i)
		value.WriteString("; P" + n + "=\"v" + n + "\"")
		wanted.Params = append(wanted.Params, api.Field{Name: "p" + n, Value: "v" + n})
	}
	wantType(t, value.String(), wanted, true)
	wantType(t, value.String()+";", api.Type{}, false)
	wantType(t, value.String()+"; x", api.Type{}, false)
	x, _ := mimetype.Type(value.String())
	wantParam(t, x, "P0", "v0", true)
	wantParam(t, x, "P4999", "v4999", true)
	wantParam(t, x, "P5000", "", false)
}

// Rule 1: every call ends, and soon, at long values that are none till their ends.
func TestLongValues(t *testing.T) {
	const n = 1 << 20
	for _, piece := range []string{"a", " ", "\t", "(", ")", "()", "(a", "\\", "\"", "/", ";", "=", "(\\", "\x00", "\xff", "a/b", "a/b;", ";x=1", "\"\\", "(\")"} {
		long := strings.Repeat(piece, n)
		for _, ahead := range []string{"", "a/b", "a/b;x=", `a/b;x="`, "(", "base64"} {
			mimetype.Type(ahead + long)
			mimetype.Encoding(ahead + long)
		}
		mimetype.Lower(long)
		mimetype.Token(long)
		x := kind("a", "b", "x", long, long, "y")
		mimetype.Text(x)
		mimetype.Param(x, long)
	}
	long := strings.Repeat("aB", n)
	wantType(t, long+"/"+long+";"+long+"="+long, kind(strings.ToLower(long), strings.ToLower(long), strings.ToLower(long), long), true)
	wantType(t, "a/b"+strings.Repeat("(c) ", n), kind("a", "b"), true)
	wantType(t, "a/b("+strings.Repeat("(c)", n)+")", kind("a", "b"), true)
	wantType(t, "a/b;x=\""+strings.Repeat("\\\"", n)+"\"", kind("a", "b", "x", strings.Repeat("\"", n)), true)
}

// P13.2, P13.4: ordinary types, against the library.
func TestLibrary(t *testing.T) {
	for _, s := range []string{
		"text/plain", "Text/HTML; Charset=UTF-8", `multipart/mixed; boundary="a b;c"; x=1`, "application/x-y+z;a=b;c=\"\"", ` a/b ; x = 1`, `a/b; x="\"\\"`, "a/b; x", "a/b; x=", "a/", "/b", "a/b c",
	} {
		main, params, err := mime.ParseMediaType(s)
		x, ok := mimetype.Type(s)
		if ok != (err == nil) || len(x.Params) != len(params) || ok && x.Main+"/"+x.Sub != main {
			t.Errorf("%q: %q %t, the library tells %q %q %v", s, x, ok, main, params, err)
		}
		for _, p := range x.Params {
			if params[p.Name] != p.Value {
				t.Errorf("%q: %q, not %q", s, p.Value, params[p.Name])
			}
		}
		text, wrote := mimetype.Text(x)
		again, _, _ := mime.ParseMediaType(text)
		if wrote != ok || again != main && ok {
			t.Errorf("%q: written as %q", s, text)
		}
	}
}

// Rule 3: what was answered may be changed, its spare room too, without changing another answer.
func TestTypeIsNewMemory(t *testing.T) {
	const value = `A/b;X=1;y="2 3";z=4`
	wanted := kind("a", "b", "x", "1", "y", "2 3", "z", "4")
	one, _ := mimetype.Type(value)
	two, _ := mimetype.Type(value)
	room := one.Params[:cap(one.Params)]
	for i := range room {
		room[i] = api.Field{Name: "changed", Value: "changed"}
	}
	if !same(two, wanted) {
		t.Errorf("changed to %q", two)
	}
	wantType(t, value, wanted, true)
	wantText(t, two, `a/b; x=1; y="2 3"; z=4`, true)
	wantType(t, "a/b;x", api.Type{}, false)
	wantType(t, "c/d", kind("c", "d"), true)
}

// Rule 3: a type that is handed in is as it was, its spare room too.
func TestArgumentsStay(t *testing.T) {
	room := kind("", "", "x", `"A\`, "Y", "B", "spare", "spare").Params
	was := slices.Clone(room)
	for _, x := range []api.Type{{Main: "a", Sub: "b", Params: room[:1]}, {Main: "a", Sub: "b", Params: room[:2]}, {Main: "A", Sub: "b", Params: room[:2]}, {Main: "a", Sub: "b", Params: room[:0]}} {
		mimetype.Text(x)
		mimetype.Param(x, "X")
		mimetype.Param(x, "Y")
		mimetype.Param(x, "")
		if !slices.Equal(room, was) {
			t.Fatalf("changed to %q", room)
		}
	}
}

// Rule 4: an answer does not hang on calls ahead of it, those that gave up among them.
func TestByTurns(t *testing.T) {
	values := []string{"a/b", "a/b;x=1", "a/b;x=\"1", "a/b(", "base64", "7bit (", "", "c/d;y=\"\\", nest(33, ""), "quoted-printable"}
	for _, x := range values {
		for _, y := range values {
			hold(t, x)
			hold(t, y)
			hold(t, x)
		}
	}
}
