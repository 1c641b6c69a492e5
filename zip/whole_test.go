package zip_test

import (
	stdzip "archive/zip"
	"bytes"
	"compress/flate"
	"hash/crc32"
	"io"
	"math"
	"slices"
	"strings"
	"testing"
	"time"

	"winkle/api"
	"winkle/zip"
)

// The chapter's examples.
func TestExamples(t *testing.T) {
	for _, tail := range []string{"", "x", "anything"} {
		want(t, []byte("PK\x05\x06"+tail), 4+len(tail), api.None)
	}
	want(t, nil, 0, api.Cut)
	want(t, []byte{}, 0, api.Cut)
	want(t, []byte{0x50, 0x4b}, 2, api.Cut)
	want(t, []byte{0x50, 0x4c}, 2, api.BadMagic)
	want(t, []byte{0x50, 0x4b, 5, 2}, 4, api.BadMagic)
	b := []byte{0x50, 0x4b, 3, 4, 0x0a, 0, 0, 0, 0, 0, 0, 0, 0, 0, 0xc2, 0x41, 0x24, 0x35, 3, 0, 0, 0, 3, 0, 0, 0, 1, 0, 0, 0, 0x61, 0x61, 0x62, 0x63, 0x50, 0x4b, 5, 6}
	a := want(t, b, len(b), api.None, entry{"a", "abc"})
	for n, events := range map[int][]api.Event{31: {opened("a")}, 32: {given('a')}, 33: {given('b')}, 34: {given('c'), closed}} {
		if got := a.with(n); !slices.Equal(got, events) {
			t.Errorf("with byte %d %v", n, got)
		}
	}
	want(t, change(b, 6, 1), len(b), api.None)
	want(t, change(b, 6, 8), 31, api.Lost)
}

// P17.3: the entry that was begun is told from its header's last byte on.
func TestTheEntryThatWasBegun(t *testing.T) {
	for _, ahead := range [][]byte{nil, file("first", "1"), plan{flags: 1, name: "no", data: "xyz"}.bytes()} {
		before := slowly(ahead).entries()
		list := func(data string) []entry { return append(slices.Clone(before), entry{"a", data}) }
		b := abc().bytes()
		wantWhole(t, archive(ahead, b[:headLen]), 9, api.Cut, before...)
		for n, begun := range map[int]string{31: "", 32: "a", 33: "ab", 34: "abc"} {
			wantWhole(t, archive(ahead, b[:n]), 9, api.Cut, list(begun)...)
		}
		wantWhole(t, archive(ahead, b, []byte("x")), 9, api.BadMagic, list("abc")...)
		wantWhole(t, archive(ahead, set(plan{name: "a"}.bytes(), sumAt, 4, 1)), 9, api.BadSum, list("")...)
		wantWhole(t, archive(ahead, set(plan{name: "a", method: 8}.bytes(), packedAt, 4, 0)), 9, api.BadSize, list("")...)
		wantWhole(t, archive(ahead, set(b, packedAt, 4, 4)), 9, api.BadSize, before...)
		wantWhole(t, archive(ahead, plan{name: "a", flags: 8}.bytes()), 9, api.Lost, before...)
	}
}

// mosts are the edges of most, where so many bytes are given in all.
func mosts(n int) []int {
	return []int{math.MinInt, -2, -1, 0, 1, 2, n / 2, n - 2, n - 1, n, n + 1, n + 2, math.MaxInt}
}

// P17.3: most over one entry and several ones, of each kind, at the end of one and the beginning of the next.
func TestMost(t *testing.T) {
	list := [][]byte{nil, over, file("a", ""), abc().bytes(), all(), archive(abc().bytes(), file("n", ""), file("m", ""), abc().bytes())}
	for _, p := range ways("n", strings.Repeat("some words, ", 30)) {
		list = append(list, p.bytes(), archive(p.bytes(), abc().bytes(), p.bytes()))
	}
	list = append(list, plan{method: 8, name: "n", data: strings.Repeat("a", 300), packed: manyAs(300)}.bytes())
	for _, b := range list {
		for _, tail := range [][]byte{nil, over, {1}, []byte("PK\x03\x04")} {
			b := archive(b, tail)
			a := slowly(b)
			for _, most := range append(mosts(a.total()), 3, 4, 5, 6) {
				entries, why := a.within(most)
				wantWhole(t, b, most, why, entries...)
			}
		}
	}
}

// P17.3: each most over three entries, by hand; an entry that was begun is told, an empty one, too; what is passed over counts nothing.
func TestMostByHand(t *testing.T) {
	b := archive(plan{flags: 1, data: "passed over"}.bytes(), abc().bytes(), file("e", ""), plan{name: "o", data: "one", method: 8, flags: 8}.bytes(), over)
	for most, entries := range [][]entry{{{"a", ""}}, {{"a", "a"}}, {{"a", "ab"}}, {{"a", "abc"}, {"e", ""}, {"o", ""}}, {{"a", "abc"}, {"e", ""}, {"o", "o"}}, {{"a", "abc"}, {"e", ""}, {"o", "on"}}} {
		wantWhole(t, b, most, api.TooMuch, entries...)
	}
	for _, most := range []int{6, 7, 99} {
		wantWhole(t, b, most, api.None, entry{"a", "abc"}, entry{"e", ""}, entry{"o", "one"})
	}
	wantWhole(t, b, -1, api.TooMuch, entry{"a", ""})
	for _, most := range []int{-1, 0} {
		wantWhole(t, archive(file("e", ""), over), most, api.None, entry{"e", ""})
		wantWhole(t, abc().bytes()[:31], most, api.Cut, entry{"a", ""})
		wantWhole(t, abc().bytes()[:32], most, api.TooMuch, entry{"a", ""})
		wantWhole(t, over, most, api.None)
	}
}

// P17.3: most met where the bytes are bad, or cut off, with the same byte or behind it: only one byte more is TooMuch.
func TestMostAheadOfWhatIsBad(t *testing.T) {
	deflated := plan{method: 8, name: "a", data: "abc", packed: squeezed("abc", 9)}
	behind := deflated
	behind.flags = 8
	for _, x := range []struct {
		b   []byte
		why api.Reason
	}{
		{set(abc().bytes(), sumAt, 4, 1), api.BadSum}, {abc().bytes(), api.Cut}, {archive(abc().bytes(), []byte("PKx")), api.BadMagic}, {archive(abc().bytes(), plan{flags: 8}.bytes()), api.Lost},
		{set(deflated.bytes(), sumAt, 4, 1), api.BadSum}, {set(deflated.bytes(), sizeAt, 4, 2), api.BadSize}, {set(deflated.bytes(), packedAt, 4, 77), api.BadSize}, {set(deflated.bytes(), packedAt, 4, uint64(len(deflated.packed)-1)), api.BadSize},
		{archive(behind.header(), behind.body(), []byte("abcd")), api.BadSum}, {archive(behind.header(), behind.body()), api.Cut}, {archive(behind.bytes(), []byte("x")), api.BadMagic},
		{archive(behind.header(), []byte{0, 3, 0, 0xfc, 0xff, 'a', 'b', 'c', 7}), api.BadBlock},
	} {
		for most, data := range map[int]string{-1: "", 0: "", 1: "a", 2: "ab"} {
			wantWhole(t, x.b, most, api.TooMuch, entry{"a", data})
		}
		wantWhole(t, x.b, 3, x.why, entry{"a", "abc"})
		wantWhole(t, x.b, 4, x.why, entry{"a", "abc"})
	}
}

// Theorem 4 needs it: what gives much more than may be is left as soon as that is known.
func TestMuchOutOfLittle(t *testing.T) {
	text := strings.Repeat("a", 1<<22)
	for _, flags := range []int{0, 8} {
		p := plan{method: 8, flags: flags, name: "n", data: text, packed: squeezed(text, 9)}
		b := archive(p.bytes(), over)
		wantWhole(t, b, 1000, api.TooMuch, entry{"n", text[:1000]})
		wantWhole(t, b, 1<<22-1, api.TooMuch, entry{"n", text[1:]})
		wantWhole(t, b, 1<<22, api.None, entry{"n", text})
	}
}

// named are names and data that are handed to the library's writer.
func named() []entry {
	return []entry{
		{"a", "abc"}, {"empty", ""}, {"dir/", ""}, {"dir/b.txt", strings.Repeat("words and words, ", 500)}, {"noise", noise(3000)}, {"great", noise(70000)},
		{"caf\u00e9/\u4e2d", "x"}, {"\xff\xfe", "xy"}, {strings.Repeat("n", 256), "long"}, {"PK", "PK\x05\x06PK\x03\x04PK\x01\x02"}, {"as", strings.Repeat("a", 100000)},
	}
}

// finished ends what the library writes.
func finished(t *testing.T, w *stdzip.Writer, b *bytes.Buffer) []byte {
	t.Helper()
	if err := w.SetComment("PK\x03\x04 a comment"); err != nil {
		t.Fatal(err)
	}
	if err := w.Close(); err != nil {
		t.Fatal(err)
	}
	return b.Bytes()
}

// P17.4: what the library writes, deflated, its sizes behind, is told, with its names; directories are stored, of no bytes.
func TestDeflatedByTheLibrary(t *testing.T) {
	for _, level := range []int{flate.NoCompression, flate.BestSpeed, flate.DefaultCompression, flate.BestCompression, flate.HuffmanOnly} {
		var b bytes.Buffer
		w := stdzip.NewWriter(&b)
		w.RegisterCompressor(stdzip.Deflate, func(out io.Writer) (io.WriteCloser, error) { return flate.NewWriter(out, level) })
		for i, e := range named() {
			h := stdzip.FileHeader{Name: e.name, Method: stdzip.Deflate, Comment: "a comment"}
			if i%2 == 1 {
				h.Modified = time.Unix(1700000000, 0) // which the library writes into the extra, too
			}
			f, err := w.CreateHeader(&h)
			if err != nil {
				t.Fatal(err)
			}
			f.Write([]byte(e.data))
		}
		end := finished(t, w, &b)
		want(t, end, len(end), api.None, named()...)
	}
}

// raw writes an entry by the library, with its sum and its sizes ahead.
func raw(t *testing.T, w *stdzip.Writer, h stdzip.FileHeader, data string, packed []byte) {
	t.Helper()
	h.CRC32, h.CompressedSize64, h.UncompressedSize64 = crc32.ChecksumIEEE([]byte(data)), uint64(len(packed)), uint64(len(data))
	f, err := w.CreateRaw(&h)
	if err != nil {
		t.Fatal(err)
	}
	if _, err := f.Write(packed); err != nil && len(packed) > 0 {
		t.Fatal(err)
	}
}

// P17.4: what the library writes, stored and deflated, its sizes ahead, is told, with its names; what is encrypted, or packed in another way, is passed over.
func TestAheadByTheLibrary(t *testing.T) {
	var b bytes.Buffer
	var list []entry
	w := stdzip.NewWriter(&b)
	for i, e := range named() {
		extra := []byte(record(0x7075, noise(i)))
		raw(t, w, stdzip.FileHeader{Name: e.name, Extra: extra}, e.data, []byte(e.data))
		raw(t, w, stdzip.FileHeader{Name: "no", Flags: 1, Method: stdzip.Deflate, Extra: extra}, e.data, []byte(noise(i*100)))
		list = append(list, e)
		if !strings.HasSuffix(e.name, "/") {
			raw(t, w, stdzip.FileHeader{Name: e.name, Method: stdzip.Deflate, Extra: extra}, e.data, squeezed(e.data, 9))
			raw(t, w, stdzip.FileHeader{Name: "no", Method: 12}, e.data, []byte(noise(i*77)))
			list = append(list, e)
		}
	}
	end := finished(t, w, &b)
	want(t, end, len(end), api.None, list...)
}

// What the library writes stored, its sizes behind, is Lost, as nothing tells where it ends.
func TestStoredByTheLibraryWithSizesBehind(t *testing.T) {
	var b bytes.Buffer
	w := stdzip.NewWriter(&b)
	raw(t, w, stdzip.FileHeader{Name: "ahead"}, "x", []byte("x"))
	f, err := w.CreateHeader(&stdzip.FileHeader{Name: "behind", Method: stdzip.Store})
	if err != nil {
		t.Fatal(err)
	}
	f.Write([]byte("abc"))
	end := finished(t, w, &b)
	want(t, end, headLen+5+1+headLen+6, api.Lost, entry{"ahead", "x"})
}

// P17.4: an archive of no entries, by the library.
func TestNoneByTheLibrary(t *testing.T) {
	var b bytes.Buffer
	end := finished(t, stdzip.NewWriter(&b), &b)
	want(t, end, len(end), api.None)
}

// P17.4: many entries, by the library: more than its last record has room to count.
func TestManyByTheLibrary(t *testing.T) {
	var b bytes.Buffer
	w := stdzip.NewWriter(&b)
	for range 65600 {
		raw(t, w, stdzip.FileHeader{Name: "n"}, "x", []byte("x"))
	}
	end := finished(t, w, &b)
	wantWhole(t, end, 65600, api.None, slices.Repeat([]entry{{"n", "x"}}, 65600)...)
	wantWhole(t, end, 65599, api.TooMuch, append(slices.Repeat([]entry{{"n", "x"}}, 65599), entry{"n", ""})...)
}

// Rule 3: what Whole answered may be changed, its spare room, too, without changing another list of it, another answer, or the bytes.
func TestAnswersAreTheirOwn(t *testing.T) {
	b := archive(abc().bytes(), plan{name: "b", method: 8, data: "x"}.bytes(), file("c", ""), file("d", noise(40)), over)
	kept := slices.Clone(b)
	wanted := []string{"abc", "x", "", noise(40)}
	names, first, _ := zip.Whole(b, 99)
	others, second, _ := zip.Whole(b, 99)
	for i, m := range first {
		for j := range m[:cap(m)] {
			m[:cap(m)][j] = '!'
		}
		first[i] = append(m, "!!!!!!!!"...)
		for j, other := range first[i+1:] {
			if string(other) != wanted[i+1+j] {
				t.Errorf("entry %d became %q", i+1+j, other)
			}
		}
	}
	clear(first[:cap(first)])
	clear(names[:cap(names)])
	if !slices.Equal(b, kept) {
		t.Error("the bytes were changed")
	}
	clear(b)
	if !slices.Equal(others, []string{"a", "b", "c", "d"}) {
		t.Errorf("other names became %q", others)
	}
	for i, m := range second {
		if string(m) != wanted[i] {
			t.Errorf("another answer became %q", m)
		}
	}
}

// Rule 3: a name that was told stays as it is, whatever comes behind it.
func TestNamesStay(t *testing.T) {
	w := zip.New()
	b := file("first", "")
	feed(w, b[:len(b)-1])
	w.Put(b[len(b)-1])
	e, _ := w.Next()
	w.Next()
	feed(w, archive(file("other", "x"), plan{name: "third", method: 8, flags: 8, data: "y"}.bytes()))
	w.Reset()
	feed(w, file("again", "x"))
	if e != opened("first") {
		t.Errorf("the event became %v", e)
	}
}

// Rule 4: the same bytes are told the same way, again and again.
func TestAgain(t *testing.T) {
	for range 3 {
		want(t, all(), len(all()), api.None, allEntries()...)
	}
}
