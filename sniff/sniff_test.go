package sniff_test

import (
	"archive/tar"
	"archive/zip"
	"bytes"
	"compress/gzip"
	"math/rand"
	"slices"
	"strings"
	"testing"

	"winkle/api"
	"winkle/sniff"
)

// P18.1: the chapter's examples.
func TestExamples(t *testing.T) {
	want(t, []byte{0x1f, 0x8b, 8}, false, api.KindGzip, true)
	want(t, []byte{0x1f, 0x8b}, false, 0, false)
	want(t, []byte{0x1f, 0x8b}, true, api.KindRaw, true)
	want(t, nil, true, api.KindRaw, true)
	want(t, []byte{0x50, 0x4b, 3, 4}, false, api.KindZip, true)
	want(t, make([]byte, 256), false, 0, false)
	want(t, make([]byte, 258), false, api.KindRaw, true)
	want(t, append(make([]byte, 257), "ustar"...), false, api.KindTar, true)
}

// P18.1: nothing, as nil and as an empty list, with and without bytes in its room.
func TestNoBytes(t *testing.T) {
	for _, prefix := range [][]byte{nil, {}, []byte(gzipMark)[:0], []byte(zipMark)[:0], []byte(gzipMark)[3:]} {
		open(t, prefix, api.KindRaw)
	}
}

// P18.1: each prefix of gzip's and of zip's first bytes, whole, and with each byte turned.
func TestFirstBytes(t *testing.T) {
	for _, x := range []struct {
		mark string
		kind int
	}{{gzipMark, api.KindGzip}, {zipMark, api.KindZip}} {
		for n := range len(x.mark) {
			open(t, []byte(x.mark[:n]), api.KindRaw)
		}
		for _, tail := range []string{"", "\x00", "x", x.mark, strings.Repeat("y", 400)} {
			sure(t, []byte(x.mark+tail), x.kind)
		}
		for at := range len(x.mark) {
			for _, other := range turned(x.mark, at) {
				for n := at + 1; n <= len(x.mark); n++ {
					open(t, []byte(other[:n]), api.KindRaw)
				}
				sure(t, []byte(filled(other, 0)+"\x00"), api.KindRaw)
				sure(t, []byte(filled(other, 0)+tarMark), api.KindTar)
			}
		}
	}
}

// P18.1: one's first bytes behind another one's, behind a byte, and at tar's place are none.
func TestFirstBytesElsewhere(t *testing.T) {
	for _, mark := range []string{gzipMark, zipMark} {
		for _, ahead := range []string{"\x00", " ", "\x1f", "P", "\x1f\x8b", "PK", "PK\x03"} {
			if ahead+mark != mark {
				open(t, []byte(ahead+mark), api.KindRaw)
			}
		}
		sure(t, []byte(filled("", 0)+mark), api.KindRaw)
	}
	open(t, []byte(tarMark), api.KindRaw)
	open(t, []byte("PK\x05\x06"), api.KindRaw)
	open(t, []byte("PK\x01\x02"), api.KindRaw)
	open(t, []byte("BZh9"), api.KindRaw)
	sure(t, []byte(gzipMark+zipMark), api.KindGzip)
	sure(t, []byte(zipMark+gzipMark), api.KindZip)
}

// P18.1: all prefixes of one and of two bytes.
func TestShortPrefixes(t *testing.T) {
	for a := range 256 {
		open(t, []byte{byte(a)}, api.KindRaw)
		for b := range 256 {
			open(t, []byte{byte(a), byte(b)}, api.KindRaw)
		}
	}
}

// P18.1, P18.2: one byte again and again, of each length; with the 258th it is known that it is no tar archive.
func TestOneByteAgainAndAgain(t *testing.T) {
	for _, b := range []byte{0, 1, 8, 0x1f, 0x8b, ' ', 'P', 'K', 's', 't', 'v', 'U', 255} {
		for n := range 301 {
			prefix := bytes.Repeat([]byte{b}, n)
			if n < 258 {
				open(t, prefix, api.KindRaw)
			} else {
				sure(t, prefix, api.KindRaw)
			}
		}
	}
}

// P18.1, P18.2: bytes `u` may go on as tar's up to the 258th.
func TestBytesThatTarBeginsWith(t *testing.T) {
	for n := range 301 {
		prefix := bytes.Repeat([]byte{'u'}, n)
		if n < 259 {
			open(t, prefix, api.KindRaw)
		} else {
			sure(t, prefix, api.KindRaw)
		}
	}
}

// aheads are 257 bytes that are of no kind yet: such that say nothing, and beginnings of gzip and zip that are cut short or turned.
func aheads() []string {
	list := []string{filled("", 0), filled("", 'x'), filled("", 255), filled("name", 0), filled(tarMark, 'u')}
	for _, mark := range []string{gzipMark, zipMark} {
		for n := range len(mark) {
			list = append(list, filled(mark[:n], 0), filled(mark[:n], 'P'), filled(mark[:n]+"\xff"+mark[n+1:], ' '))
		}
	}
	return list
}

// P18.1: each prefix of 257 bytes and `ustar`, and what may stand behind.
func TestTar(t *testing.T) {
	for _, ahead := range aheads() {
		file := ahead + tarMark
		for n := range len(file) {
			open(t, []byte(file[:n]), api.KindRaw)
		}
		for _, tail := range []string{"", "\x00", "  \x00", "\x0000", "x", gzipMark, strings.Repeat("z", 600)} {
			sure(t, []byte(file+tail), api.KindTar)
		}
	}
}

// P18.1: each of the five bytes turned into each other one, and cut off at each place behind it.
func TestTarTurned(t *testing.T) {
	for _, ahead := range aheads() {
		for at := range len(tarMark) {
			for _, other := range turned(tarMark, at) {
				for n := range at + 1 {
					open(t, []byte(ahead+other[:n]), api.KindRaw)
				}
				for n := at + 1; n <= len(other); n++ {
					sure(t, []byte(ahead+other[:n]), api.KindRaw)
				}
				sure(t, []byte(ahead+other+"\x00\x00"), api.KindRaw)
			}
		}
	}
}

// P18.1: others in their place, and `ustar` at other places.
func TestTarElsewhere(t *testing.T) {
	for _, ahead := range aheads() {
		for _, other := range []string{"USTAR", "Ustar", "ratsu", "utsar", "\x00\x00\x00\x00\x00", "     ", gzipMark + "ar", zipMark + "r", "xustar", "star", "uustar", "ust\x00ar"} {
			sure(t, []byte(ahead+other), api.KindRaw)
		}
		for _, place := range []int{5, 100, 251, 252, 253, 254, 255, 256, 258, 259, 261, 262, 263, 512 + 257} {
			file := slices.Concat([]byte(ahead), make([]byte, 600))
			copy(file[place:], tarMark)
			sure(t, file, api.KindRaw)
		}
	}
}

// P18.1: the first of the kinds counts: `ustar` behind a whole beginning of gzip's or zip's says nothing.
func TestOrderOfKinds(t *testing.T) {
	for _, x := range []struct {
		mark string
		kind int
	}{{gzipMark, api.KindGzip}, {zipMark, api.KindZip}} {
		for _, with := range []byte{0, 'P', 0x1f, 255} {
			file := filled(x.mark, with) + tarMark + "\x0000"
			for n := len(x.mark); n <= len(file); n++ {
				sure(t, []byte(file[:n]), x.kind)
			}
		}
	}
}

// files are some of each kind, and near each, all longer than what decides.
func files() [][]byte {
	dice := rand.New(rand.NewSource(18))
	tails := []string{tarMark, "ustar  \x00", "USTAR", "\x00", "usta", "ustaq", "us\x00ar", zipMark, gzipMark}
	var list [][]byte
	for _, ahead := range append(aheads(), filled(gzipMark, 0), filled(zipMark, 0)) {
		for _, tail := range tails {
			end := make([]byte, 40)
			dice.Read(end)
			list = append(list, slices.Concat([]byte(ahead+tail), end))
		}
	}
	return list
}

// P18.2: with each byte of each file: what is known stays so, whatever byte follows; where nothing is known, a file of one kind and a file of another begin so.
func TestWhatIsKnownStays(t *testing.T) {
	for _, file := range files() {
		for n := range len(file) {
			hold(t, file[:n])
			kind, known := sniff.Sniff(file[:n], false)
			if !known {
				continue
			}
			for b := range 256 {
				sure(t, append(file[:n:n], byte(b)), kind)
			}
			for _, longer := range filesOf(file[:n]) {
				sure(t, longer, kind)
			}
			sure(t, file, kind)
		}
	}
}

// P18.2: with MaxPrefix bytes, or ended, it is always known; with one byte less, not ended, it may not be.
func TestMaxPrefix(t *testing.T) {
	if api.MaxPrefix != tarAt+len(tarMark) {
		t.Fatal(api.MaxPrefix)
	}
	for _, file := range files() {
		for n := range len(file) + 1 {
			if _, known := sniff.Sniff(file[:n], true); !known {
				t.Fatalf("%q: not known, though it has ended", file[:n])
			}
			if _, known := sniff.Sniff(file[:n], false); !known && n >= api.MaxPrefix {
				t.Fatalf("%q: not known with %d bytes", file[:n], n)
			}
		}
	}
	last := filled("", 0) + "usta"
	open(t, []byte(last), api.KindRaw)
	sure(t, []byte(last+"r"), api.KindTar)
	sure(t, []byte(last+"s"), api.KindRaw)
}

// P18.2: bytes behind the first MaxPrefix ones say nothing.
func TestMoreThanMaxPrefix(t *testing.T) {
	dice := rand.New(rand.NewSource(2))
	for _, file := range files() {
		kind := fileKind(file[:api.MaxPrefix])
		for _, n := range []int{0, 1, 2, 249, 250, 251, 5000} {
			more := make([]byte, n)
			dice.Read(more)
			sure(t, slices.Concat(file[:api.MaxPrefix], more), kind)
			sure(t, slices.Concat(file[:api.MaxPrefix], more, []byte(gzipMark+zipMark+tarMark)), kind)
		}
	}
	sure(t, make([]byte, 1<<22), api.KindRaw)
	sure(t, slices.Concat([]byte(filled("", 0)+tarMark), make([]byte, 1<<22)), api.KindTar)
}

// P18.1: any bytes, of which many begin as one of the kinds does.
func TestAnyBytes(t *testing.T) {
	dice := rand.New(rand.NewSource(1))
	for range 40000 {
		prefix := make([]byte, dice.Intn(300))
		dice.Read(prefix)
		for _, mark := range []string{gzipMark, zipMark} {
			if dice.Intn(3) == 0 {
				copy(prefix, mark[:dice.Intn(len(mark)+1)])
			}
		}
		if len(prefix) > tarAt && dice.Intn(2) == 0 {
			copy(prefix[tarAt:], tarMark[:dice.Intn(len(tarMark)+1)])
		}
		hold(t, prefix)
	}
}

// knownFrom holds of a file that it is of this kind, known with this many bytes and not sooner.
func knownFrom(t *testing.T, file []byte, from, kind int) {
	t.Helper()
	for n := range len(file) + 1 {
		if n < from {
			want(t, file[:n], false, api.KindNone, false)
			continue
		}
		sure(t, file[:n], kind)
	}
	want(t, file, true, kind, true)
}

// P18.1: files as other programs write them.
func TestFilesOfOthers(t *testing.T) {
	var packed bytes.Buffer
	g := gzip.NewWriter(&packed)
	g.Name = "name"
	g.Write([]byte("some text"))
	g.Close()
	knownFrom(t, packed.Bytes(), 3, api.KindGzip)

	var entries bytes.Buffer
	z := zip.NewWriter(&entries)
	w, err := z.Create("name")
	if err != nil {
		t.Fatal(err)
	}
	w.Write([]byte("some text"))
	z.Close()
	knownFrom(t, entries.Bytes(), 4, api.KindZip)

	var none bytes.Buffer
	zip.NewWriter(&none).Close()
	open(t, none.Bytes(), api.KindRaw)

	for _, form := range []tar.Format{tar.FormatUSTAR, tar.FormatGNU, tar.FormatPAX} {
		for _, name := range []string{"name", "PK\x03", gzipMark[:1] + "name"} {
			var archive bytes.Buffer
			a := tar.NewWriter(&archive)
			if err := a.WriteHeader(&tar.Header{Name: name, Size: 4, Mode: 0o644, Format: form}); err != nil {
				t.Fatal(err)
			}
			a.Write([]byte("text"))
			a.Close()
			knownFrom(t, archive.Bytes(), api.MaxPrefix, api.KindTar)
		}
	}

	var empty bytes.Buffer
	tar.NewWriter(&empty).Close()
	knownFrom(t, empty.Bytes(), tarAt+1, api.KindRaw)
}

// Rule 3: what was handed in is as it was, its spare room, too, and what stands in that room says nothing.
func TestPrefixIsAsItWas(t *testing.T) {
	for _, file := range files() {
		was := bytes.Clone(file)
		for n := range len(file) + 1 {
			kind, known := sniff.Sniff(file[:n:n], false)
			want(t, file[:n], false, kind, known)
			want(t, file[:n], true, fileKind(was[:n]), true)
		}
		if !bytes.Equal(file, was) {
			t.Fatalf("%q became of %q", file, was)
		}
	}
}

// Rule 4: the same is told again, whatever was asked between, and whatever became of the bytes since.
func TestSameAgain(t *testing.T) {
	type answer struct {
		kind  int
		known bool
	}
	ask := func(file []byte, n int, ended bool) answer {
		room := bytes.Clone(file[:n])
		defer clear(room)
		kind, known := sniff.Sniff(room, ended)
		return answer{kind, known}
	}
	list := files()
	var first []answer
	for _, file := range list {
		for n := range len(file) {
			first = append(first, ask(file, n, false), ask(file, n, true))
		}
	}
	at := len(first)
	for _, file := range slices.Backward(list) {
		for n := len(file) - 1; n >= 0; n-- {
			at -= 2
			if again := [2]answer{ask(file, n, false), ask(file, n, true)}; again != [2]answer(first[at:at+2]) {
				t.Fatalf("%q: %v, then %v", file[:n], first[at:at+2], again)
			}
		}
	}
}
