package tar_test

import (
	stdtar "archive/tar"
	"bytes"
	"errors"
	"io"
	"slices"
	"strings"
	"testing"
	"time"

	"winkle/api"
	"winkle/tar"
)

// The chapter's examples.
func TestExamples(t *testing.T) {
	wantWhole(t, zeros(1024), api.None)
	wantWhole(t, nil, api.None)
	wantWhole(t, []byte{}, api.None)
	wantWhole(t, []byte{0}, api.Cut)
	wantWhole(t, bytes.Repeat([]byte{1}, 512), api.BadSum)
	b := archive(plan{name: "a", kind: '0', data: "abc"}.block(), []byte("abc"), zeros(509))
	a := wantAll(t, b, entry{"a", "abc"})
	if got := a.with(515); !slices.Equal(got, []api.Event{given('c'), closed}) {
		t.Errorf("with the byte c %v", got)
	}
	wantAll(t, archive(extra("11 path=ab\n"), b), entry{"ab", "abc"})
	wantAll(t, archive(extra("9 size=3\n"), plan{name: "a", kind: '0'}.block(), padded("abc")), entry{"a", "abc"})
	want(t, archive(extra("8 size=3\n"), b), 512+9, api.BadRecord)
}

// Known headers, as GNU tar writes them of a file a of three bytes, in two of its formats.
func TestKnownHeaders(t *testing.T) {
	for _, fields := range []map[int]string{
		{0: "a", 100: "0000644\x000000000\x000000000\x0000000000003\x0014524770400\x00006104\x00 \x00", 329: "0000000\x000000000\x00"},
		{0: "a", 100: "0000644\x000000000\x000000000\x0000000000003\x0014524770400\x00007713\x00 0", 257: "ustar  \x00root", 297: "root"},
	} {
		b := zeros(512)
		for place, field := range fields {
			copy(b[place:], field)
		}
		wantAll(t, archive(b, padded("abc"), zeros(1024)), entry{"a", "abc"})
		want(t, archive(change(b, 153, '5'), padded("abc")), 512, api.BadSum)
	}
}

// P16.3: the file that was begun is told from its header's last byte on.
func TestTheFileThatWasBegun(t *testing.T) {
	for _, ahead := range [][]byte{nil, file("first", "1")} {
		before := slowly(ahead).entries()
		b := file("a", "abc")
		for n, begun := range map[int]string{512: "", 513: "a", 514: "ab", 515: "abc", 516: "abc", 1023: "abc"} {
			wantWhole(t, archive(ahead, b[:n]), api.Cut, append(slices.Clone(before), entry{"a", begun})...)
		}
		wantWhole(t, archive(ahead, b[:511]), api.Cut, before...)
		wantWhole(t, archive(ahead, b), api.None, append(slices.Clone(before), entry{"a", "abc"})...)
		wantWhole(t, archive(ahead, b, []byte(noise(512)), b), api.BadSum, append(slices.Clone(before), entry{"a", "abc"})...)
		wantWhole(t, archive(ahead, b, long("n"), extra("x"), b), api.BadRecord, append(slices.Clone(before), entry{"a", "abc"})...)
	}
}

// headers are what is handed to the library's writer, of each kind that it knows.
func headers(format stdtar.Format) []stdtar.Header {
	when := time.Unix(1700000000, 0)
	list := []stdtar.Header{
		{Name: "a", Mode: 0644, ModTime: when},
		{Name: "dir/", Typeflag: stdtar.TypeDir, Mode: 0755},
		{Name: "dir/b.txt", Uid: 1000, Gid: 1000, Uname: "user", Gname: "group"},
		{Name: "link", Typeflag: stdtar.TypeSymlink, Linkname: "dir/b.txt"},
		{Name: "hard", Typeflag: stdtar.TypeLink, Linkname: "a"},
		{Name: "pipe", Typeflag: stdtar.TypeFifo},
		{Name: "char", Typeflag: stdtar.TypeChar, Devmajor: 1, Devminor: 3},
		{Name: strings.Repeat("n", 99)},
		{Name: strings.Repeat("n", 100)},
		{Name: strings.Repeat("d/", 49) + "ff", Mode: 0600},
		{Name: strings.Repeat("p", 155) + "/" + strings.Repeat("n", 100)},
		{Name: strings.Repeat("p", 60) + "/" + strings.Repeat("n", 60)},
		{Name: "cont", Typeflag: stdtar.TypeCont},
	}
	if format != stdtar.FormatUSTAR {
		list = append(list, []stdtar.Header{
			{Name: strings.Repeat("n", 101)},
			{Name: strings.Repeat("n", 255)},
			{Name: strings.Repeat("x", 256)},
			{Name: "long link", Typeflag: stdtar.TypeSymlink, Linkname: strings.Repeat("l", 300)},
			{Name: strings.Repeat("m", 200), Typeflag: stdtar.TypeLink, Linkname: strings.Repeat("l", 200)},
			{Name: strings.Repeat("o", 200) + "/", Typeflag: stdtar.TypeDir},
			{Name: "caf\u00e9/\u4e2d", Uid: 1 << 30},
			{Name: "last"},
		}...)
	}
	if format == stdtar.FormatPAX {
		list = append(list, []stdtar.Header{
			{Typeflag: stdtar.TypeXGlobalHeader, PAXRecords: map[string]string{"path": "global", "comment": strings.Repeat("c", 2000)}},
			{Name: "p", ModTime: time.Unix(1700000000, 5), AccessTime: when, PAXRecords: map[string]string{"VENDOR.key": "a=b\nc", "VENDOR.empty": ""}},
			{Name: "behind"},
		}...)
	}
	return list
}

// isFile tells whether the library takes data for a header.
func isFile(h stdtar.Header) bool {
	return h.Typeflag == 0 || h.Typeflag == stdtar.TypeReg || h.Typeflag == stdtar.TypeCont
}

// written writes headers by the library, with data of each length that is an edge, and tells the files among them.
func written(t *testing.T, format stdtar.Format) ([]byte, []entry) {
	t.Helper()
	var b bytes.Buffer
	var files []entry
	w := stdtar.NewWriter(&b)
	lengths := []int{3, 0, 1, 511, 512, 513, 1024, 3000}
	for _, h := range headers(format) {
		h.Format = format
		data := ""
		if isFile(h) {
			data = noise(lengths[len(files)%len(lengths)])
			files = append(files, entry{h.Name, data})
		}
		h.Size = int64(len(data))
		if err := w.WriteHeader(&h); err != nil {
			t.Fatalf("%v %q: %v", format, h.Name, err)
		}
		if _, err := w.Write([]byte(data)); err != nil {
			t.Fatal(err)
		}
	}
	if err := w.Close(); err != nil {
		t.Fatal(err)
	}
	return b.Bytes(), files
}

// P16.4: what the library writes, in each of its formats, is told, with its names.
func TestWrittenByTheLibrary(t *testing.T) {
	for _, format := range []stdtar.Format{stdtar.FormatUSTAR, stdtar.FormatPAX, stdtar.FormatGNU} {
		b, files := written(t, format)
		if len(files) < 6 {
			t.Fatalf("%v: %d files", format, len(files))
		}
		wantAll(t, b, files...)
		for _, tail := range [][]byte{nil, zeros(512), zeros(9000), []byte(noise(700))} {
			wantWhole(t, archive(b, tail), api.None, files...)
		}
		end := len(b) - 1024
		wantAll(t, b[:end], files...)
		wantAll(t, archive(b[:end], b), append(slices.Clone(files), files...)...)
	}
}

// P16.4: sizes that no octal digits are enough for are told by the library in a record, or in bytes.
func TestGreatSizesByTheLibrary(t *testing.T) {
	for _, format := range []stdtar.Format{stdtar.FormatUSTAR, stdtar.FormatPAX, stdtar.FormatGNU} {
		for _, size := range []int64{1<<33 - 1, 1 << 33, 1 << 40, 1<<63 - 1} {
			var b bytes.Buffer
			w := stdtar.NewWriter(&b)
			err := w.WriteHeader(&stdtar.Header{Name: "great", Size: size, Format: format})
			if err != nil {
				if format == stdtar.FormatUSTAR && size >= 1<<33 {
					continue
				}
				t.Fatal(err)
			}
			data := noise(1024)
			want(t, archive(b.Bytes(), []byte(data)), b.Len()+1024, api.Cut, entry{"great", data})
		}
	}
}

// P16.4: what is told of an archive is what the library's reader tells of it, in whatever way its long names are written.
func TestReadByTheLibrary(t *testing.T) {
	long200 := strings.Repeat("n", 200)
	magic := "ustar\x0000"
	for _, b := range [][]byte{
		archive(file("a", "abc"), file("b", ""), zeros(1024)),
		archive(long(long200+"\x00"), plan{name: "a", kind: '0', data: "abc", magic: "ustar  \x00"}.bytes(), zeros(1024)),
		archive(extra(record("path", long200), record("size", "3")), plan{name: "a", kind: '0', data: "abc", magic: magic}.bytes(), file("b", "b"), zeros(1024)),
		archive(plan{name: "n", prefix: "p/q", kind: '0', data: noise(513), magic: magic}.bytes(), zeros(1024)),
		archive(plan{name: "d/", kind: '5', magic: magic}.bytes(), plan{name: "old", data: "x"}.bytes(), zeros(1024)),
	} {
		r := stdtar.NewReader(bytes.NewReader(b))
		var files []entry
		for {
			h, err := r.Next()
			if errors.Is(err, io.EOF) {
				break
			}
			if err != nil {
				t.Fatal(err)
			}
			data, err := io.ReadAll(r)
			if err != nil {
				t.Fatal(err)
			}
			if isFile(*h) {
				files = append(files, entry{h.Name, string(data)})
			}
		}
		wantAll(t, b, files...)
	}
}

// Rule 3: what Whole answered may be changed, its spare room, too, without changing another list of it, another answer, or the bytes.
func TestAnswersAreTheirOwn(t *testing.T) {
	b := archive(file("a", "abc"), long("name"), file("b", "x"), file("c", ""), file("d", noise(40)))
	kept := slices.Clone(b)
	wanted := []string{"abc", "x", "", noise(40)}
	names, first, _ := tar.Whole(b)
	others, second, _ := tar.Whole(b)
	for i, m := range first {
		for j := range m[:cap(m)] {
			m[:cap(m)][j] = '!'
		}
		first[i] = append(m, "!!!!!!!!"...)
		for j, other := range first[i+1:] {
			if string(other) != wanted[i+1+j] {
				t.Errorf("file %d became %q", i+1+j, other)
			}
		}
	}
	clear(first[:cap(first)])
	clear(names[:cap(names)])
	if !slices.Equal(b, kept) {
		t.Error("the bytes were changed")
	}
	clear(b)
	if !slices.Equal(others, []string{"a", "name", "c", "d"}) {
		t.Errorf("other names became %q", others)
	}
	for i, m := range second {
		if string(m) != wanted[i] {
			t.Errorf("another answer became %q", m)
		}
	}
}

// Rule 3: a name that was told stays as it is, whatever comes behind it.
func TestNamesStay(t *testing.T) {
	for _, b := range [][]byte{file("first", ""), archive(long("first"), file("x", "")), archive(extra(record("path", "first")), file("x", ""))} {
		w := tar.New()
		feed(w, b[:len(b)-1])
		w.Put(b[len(b)-1])
		e, _ := w.Next()
		w.Next()
		feed(w, archive(long("other"), file("third", ""), extra(record("path", "fourth")), file("fifth", "")))
		w.Reset()
		feed(w, archive(long("other"), file("third", "")))
		if e != opened("first") {
			t.Errorf("the event became %v", e)
		}
	}
}

// Rule 4: the same bytes are told the same way, again and again.
func TestAgain(t *testing.T) {
	b := all()
	a := slowly(b)
	if len(a.entries()) != 4 || a.why != api.None {
		t.Fatalf("%d files, %d", len(a.entries()), a.why)
	}
	for range 3 {
		hold(t, b)
	}
}
