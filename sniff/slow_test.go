package sniff_test

import (
	"bytes"
	"slices"
	"strings"
	"testing"

	"winkle/api"
	"winkle/sniff"
)

const (
	gzipMark = "\x1f\x8b\x08"
	zipMark  = "PK\x03\x04"
	tarMark  = "ustar"
	tarAt    = 257
)

// fileKind tells what a whole file is, by the chapter's words.
func fileKind(file []byte) int {
	switch {
	case bytes.HasPrefix(file, []byte{0x1f, 0x8b, 0x08}):
		return api.KindGzip
	case bytes.HasPrefix(file, []byte{0x50, 0x4b, 0x03, 0x04}):
		return api.KindZip
	case len(file) > 261 && bytes.Equal(file[257:262], []byte{'u', 's', 't', 'a', 'r'}):
		return api.KindTar
	}
	return api.KindRaw
}

// wholeMarks are the shortest files of each kind: what a prefix must go on with to be of that kind, if it can be.
func wholeMarks() []string {
	return []string{"", gzipMark, zipMark, strings.Repeat("\x00", tarAt) + tarMark}
}

// filesOf are files that begin so: at least one of each kind that such a file can be of.
func filesOf(prefix []byte) [][]byte {
	files := [][]byte{prefix}
	for _, mark := range wholeMarks() {
		if len(prefix) < len(mark) {
			files = append(files, slices.Concat(prefix, []byte(mark[len(prefix):])))
		}
	}
	return files
}

// slowly tells what is known of a prefix, by what the files that begin so are.
func slowly(prefix []byte, ended bool) (int, bool) {
	kind := fileKind(prefix)
	if ended {
		return kind, true
	}
	for _, file := range filesOf(prefix) {
		if fileKind(file) != kind {
			return api.KindNone, false
		}
	}
	return kind, true
}

// want holds one call against what is to be told.
func want(t *testing.T, prefix []byte, ended bool, kind int, known bool) {
	t.Helper()
	if k, ok := sniff.Sniff(prefix, ended); k != kind || ok != known {
		t.Fatalf("Sniff(%q, %v) of %d bytes = %d, %v, want %d, %v", prefix, ended, len(prefix), k, ok, kind, known)
	}
}

// open holds that of a prefix nothing is known till it has ended, and what it is then.
func open(t *testing.T, prefix []byte, whole int) {
	t.Helper()
	want(t, prefix, false, api.KindNone, false)
	want(t, prefix, true, whole, true)
}

// sure holds that all files that begin so are of one kind.
func sure(t *testing.T, prefix []byte, kind int) {
	t.Helper()
	want(t, prefix, false, kind, true)
	want(t, prefix, true, kind, true)
}

// hold holds both calls for a prefix against the slow ones.
func hold(t *testing.T, prefix []byte) {
	t.Helper()
	for _, ended := range []bool{false, true} {
		kind, known := slowly(prefix, ended)
		want(t, prefix, ended, kind, known)
	}
}

// turned are a text with the byte at a place turned into each other one.
func turned(text string, at int) []string {
	var list []string
	for b := range 256 {
		if byte(b) != text[at] {
			list = append(list, text[:at]+string([]byte{byte(b)})+text[at+1:])
		}
	}
	return list
}

// filled is a text with bytes behind it, up to the place where tar's mark stands.
func filled(text string, with byte) string {
	return text + strings.Repeat(string([]byte{with}), tarAt-len(text))
}
