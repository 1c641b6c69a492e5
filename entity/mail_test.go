package entity_test

import (
	"bytes"
	"fmt"
	"mime"
	"mime/multipart"
	"net/mail"
	"net/textproto"
	"slices"
	"strings"
	"testing"

	"winkle/api"
	"winkle/header"
)

// headerOf reads a mail's fields.
func headerOf(t *testing.T, text string) []api.Field {
	t.Helper()
	fields, _, why, e := header.Whole([]byte(text), api.MaxHeader)
	if why != api.None || e != api.OK {
		t.Fatalf("%q is no header: %d, %d", text, why, e)
	}
	return fields
}

// P19.1: headers as mails have them, their lines broken in many ways.
func TestHeaders(t *testing.T) {
	for _, x := range []struct {
		text string
		says api.Body
	}{
		{"", file},
		{"\r\n", file},
		{"\r\nContent-Type: message/rfc822\r\n", file},
		{"Subject: Content-Type: message/rfc822\r\n\r\n", file},
		{"Subject: x\r\n Content-Type: message/rfc822\r\n\r\n", file},
		{"Content-Type: message/rfc822\r\n\r\n", letter},
		{"Content-Type:message/rfc822", letter},
		{"content-type: message/\r\n\trfc822\r\n\r\n", letter},
		{"Content-Type:\r\n message/rfc822\r\n\r\n", letter},
		{"Content-Type:\r\n\r\n", file},
		{"Content-Type: multipart/mixed;\r\n boundary=\"x y\"\r\nContent-Transfer-Encoding: 7bit\r\n\r\n--x y", multi("x y")},
		{"Content-Type: multipart/mixed;\n\tcharset=a;\n\tboundary=\"b\n c\"\n\n", multi("b c")},
		{"Content-Type: multipart/mixed;\r\n boundary=\"b\r\n\tc\"\r\n\r\n", noBorder},
		{"Content-Type: multipart/mixed;\r\n\r\n boundary=b", file},
		{"Content-Type: multipart/mixed\r\nboundary: b\r\n\r\n", noBorder},
		{"Content-Transfer-Encoding:base64\nContent-Type: Multipart/Report; report-type=x; Boundary=b\n\n", with(multi("b"), api.EncBase64)},
		{"Content-Transfer-Encoding:\n Quoted-Printable (by hand)\nContent-Type: text/plain\n\n", with(file, api.EncQuoted)},
		{"Content-Transfer-Encoding:\nContent-Transfer-Encoding: base64\n\n", file},
		{"Content-Transfer-Encoding: base64\n gzip\nContent-Type: message/rfc822\n\n", raw},
	} {
		is(t, headerOf(t, x.text), x.says)
		is(t, headerOf(t, strings.ReplaceAll(x.text, "\r\n", "\n")), x.says)
	}
}

// byLibrary tells of a mail with ordinary values what its header says, by Go's library.
func byLibrary(t *testing.T, text string) api.Body {
	t.Helper()
	m, err := mail.ReadMessage(strings.NewReader(text))
	if err != nil {
		t.Fatal(err)
	}
	body := file
	switch strings.ToLower(m.Header.Get("Content-Transfer-Encoding")) {
	case "", "7bit", "8bit", "binary":
	case "base64":
		body.Encoding = api.EncBase64
	case "quoted-printable":
		body.Encoding = api.EncQuoted
	default:
		return raw
	}
	kind, params, err := mime.ParseMediaType(m.Header.Get("Content-Type"))
	switch {
	case err != nil:
	case strings.HasPrefix(kind, "multipart/") && params["boundary"] == "":
		return noBorder
	case strings.HasPrefix(kind, "multipart/"):
		body.Kind, body.Boundary = api.KindMulti, params["boundary"]
	case kind == "message/rfc822":
		body.Kind = api.KindMail
	}
	return body
}

// P19.1, P19.2: ordinary mails say the same to Go's library.
func TestLibrary(t *testing.T) {
	var n int
	for _, kind := range []string{"", "text/plain", "Text/HTML; charset=\"utf-8\"", "message/rfc822", "Message/Rfc822; name=\"a b.eml\"", "message/partial; number=1", "multipart/mixed", "MULTIPART/ALTERNATIVE; type=x", "multipart/mixed; boundary=b", "multipart/Signed; micalg=x;\r\n\tBoundary=\"=_b c\"; x=y", "oops/"} {
		for _, encoding := range []string{"", "7bit", "8BIT", "binary", "Base64", "quoted-PRINTABLE", "x-uuencode"} {
			for _, more := range []string{"", "Subject: x\r\n y\r\n", "Content-Type: message/rfc822\r\nContent-Transfer-Encoding: base64\r\n"} {
				text := "From: a@b\r\n"
				if kind != "" {
					text += "Content-Type: " + kind + "\r\n"
				}
				if encoding != "" {
					text += "CONTENT-TRANSFER-ENCODING: " + encoding + "\r\n"
				}
				text += more + "\r\n"
				is(t, headerOf(t, text), byLibrary(t, text))
				n++
			}
		}
	}
	if n != 231 {
		t.Fatal(n)
	}
}

// P19.1: types and parts' headers that Go's library writes.
func TestWrittenByTheLibrary(t *testing.T) {
	for _, boundary := range []string{"b", "a b", "=_x", "a/b:c?d", strings.Repeat("z", 70), "'()+_,-./:=?x"} {
		is(t, typed(mime.FormatMediaType("Multipart/Mixed", map[string]string{"boundary": boundary, "charset": "x"})), multi(boundary))
		is(t, typed(mime.FormatMediaType("message/rfc822", map[string]string{"boundary": boundary})), letter)
		var b bytes.Buffer
		w := multipart.NewWriter(&b)
		if err := w.SetBoundary(boundary); err != nil {
			t.Fatal(err)
		}
		is(t, typed(strings.Replace(w.FormDataContentType(), "form-data", "related", 1)), multi(boundary))
		if _, err := w.CreatePart(textproto.MIMEHeader{"Content-Type": {"message/rfc822"}, "Content-Transfer-Encoding": {"base64"}}); err != nil {
			t.Fatal(err)
		}
		is(t, headerOf(t, strings.TrimPrefix(b.String(), fmt.Sprintf("--%s\r\n", boundary))), with(letter, api.EncBase64))
	}
}

// P19.2: the order of fields of other names changes nothing.
func TestOrder(t *testing.T) {
	fields := row("From", "a", "Content-Type", "multipart/x; boundary=b", "To", "c", "Content-Transfer-Encoding", "quoted-printable")
	wanted := with(multi("b"), api.EncQuoted)
	for range len(fields) {
		fields = append(fields[1:], fields[0])
		is(t, fields, wanted)
		turned := slices.Clone(fields)
		slices.Reverse(turned)
		is(t, turned, wanted)
	}
}
