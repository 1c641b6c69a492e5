package tar_test

import (
	"fmt"
	"math"
	"slices"
	"strings"
	"testing"

	"winkle/api"
	"winkle/tar"
)

// longName holds all of an archive in which data stands behind a header L, and a file behind that.
func longName(t *testing.T, data string) {
	t.Helper()
	b := archive(file("first", "1"), long(data), file("short", "2"))
	name, _, _ := strings.Cut(data, "\x00")
	switch {
	case len(data) > 257:
		want(t, b, 1024+512, api.BadName, entry{"first", "1"})
	case len(name) > 256:
		want(t, b, 1024+512+257, api.BadName, entry{"first", "1"})
	default:
		wantAll(t, b, entry{"first", "1"}, entry{name, "2"})
	}
}

// L: of each size that is an edge, with a 0 within its data, at its end, and none.
func TestLongNames(t *testing.T) {
	for _, n := range []int{0, 1, 2, 100, 101, 255, 256, 257, 258, 259, 511, 512, 513, 1024, 1025} {
		full := strings.Repeat("n", n)
		longName(t, full)
		longName(t, strings.Repeat("\x00", n))
		longName(t, strings.Repeat("\xff", n))
		for _, place := range []int{0, 1, n / 2, n - 3, n - 2, n - 1} {
			if place >= 0 && place < n {
				longName(t, string(change([]byte(full), place, 0)))
				longName(t, full[:place]+string(zeros(n-place)))
			}
		}
	}
}

// The name to come is known with the data's last byte: no sooner is a name too long.
func TestTooLongANameIsToldWithItsLastByte(t *testing.T) {
	w := tar.New()
	b := long(strings.Repeat("n", 257))
	feed(w, b[:512+256])
	wantQuiet(t, w, api.None)
	if !w.Put('n') {
		t.Fatal("Put = false")
	}
	wantOver(t, w, api.BadName)
	w.Reset()
	feed(w, b[:512+256])
	if !w.Put(0) {
		t.Fatal("Put = false")
	}
	wantQuiet(t, w, api.None)
	if n := feed(w, zeros(255)); n != 255 {
		t.Fatalf("%d bytes were taken", n)
	}
	feed(w, file("a", "")[:511])
	w.Put(file("a", "")[511])
	wantTold(t, w, []api.Event{opened(strings.Repeat("n", 256)), closed}, api.None)
}

// A header too large for its kind is told with the header's last byte, at the edges of what may be.
func TestSizesOfNamesAndRecords(t *testing.T) {
	for _, x := range []struct {
		kind byte
		most int
	}{{'L', 257}, {'x', 1024}} {
		for n := x.most - 2; n < x.most+3; n++ {
			b := plan{kind: x.kind, size: fmt.Sprintf("%o\x00", n)}.block()
			if n <= x.most {
				want(t, b, 512, api.Cut)
			} else {
				want(t, b, 512, api.BadName)
			}
		}
	}
}

// An empty name to come is one: of no data, of a 0 alone, of an empty path.
func TestEmptyNamesToCome(t *testing.T) {
	p := plan{name: "short", prefix: "pre", magic: "ustar", kind: '0', data: "x"}
	for _, ahead := range [][]byte{long(""), long("\x00"), long("\x00abc"), extra(record("path", "")), archive(long("n"), long("")), archive(extra(record("path", "n")), extra(record("path", "")))} {
		wantAll(t, archive(ahead, p.bytes()), entry{"", "x"})
		wantAll(t, archive(ahead, p.bytes(), p.bytes()), entry{"", "x"}, entry{"pre/short", "x"})
	}
	wantAll(t, archive(extra(), p.bytes()), entry{"pre/short", "x"})
}

// x: of each size that is an edge; of no data nothing is read.
func TestSizesOfRecords(t *testing.T) {
	last := file("b", "b")
	for _, n := range []int{0, 1, 2, 3, 4, 5, 511, 512, 513, 1023, 1024, 1025, 1026, 2048, 9999, 10000} {
		var data string
		switch {
		case n >= 5:
			data = fmt.Sprintf("%d k=", n)
			data += strings.Repeat("v", n-1-len(data)) + "\n"
		default:
			data = "4 =\n"[:min(n, 4)]
		}
		b := archive(extra(data), last)
		switch {
		case n > 1024:
			want(t, b, 512, api.BadName)
		case n == 0 || n >= 4:
			wantAll(t, b, entry{"b", "b"})
		default:
			want(t, b, 512+n, api.BadRecord)
		}
	}
}

// good are records that say nothing of a name or a size.
func good() []string {
	return []string{
		"4 =\n", "05 =\n", "006 =\n", "0007 =\n", "5 a=\n", "5 =b\n", "6 a=b\n", "07 a=b\n", "7 a=b=\n", "7 a==b\n", "5 ==\n", "8 a=b\nc\n", "6 a=\n\n", "6 \n=b\n", "7 a\n=b\n", "6  =b\n", "7 a =b\n", "7 a= b\n", "6 a=\x00\n", "6 \x00=b\n", "7 \xff=\xff\xfe\n",
		"9 Path=x\n", "11 path =x\n", "11  path=x\n", "9 path\x00=\n", "8 pat=x\n", "11 paths=x\n", "11 gpath=x\n", "9 SIZE=x\n", "8 siz=x\n", "11 sizes=x\n", "11 asize=x\n", "30 mtime=1700000000.123456789\n", "0023 GNU.sparse.size=x\n",
	}
}

// bad are records that are none.
func bad() []string {
	return []string{
		"=", " ", "\n", "a=b\n", " =\n", " 4 =\n", " a=b\n", "x6 a=b\n", "-4 =\n", "+5 =\n", "/5 =\n", ":5 =\n", // no digits
		"00008 =\n", "00010 a=b\n", "000000011 =\n", // too many
		"0 =\n", "00 =\n", "0000 =\n", "0 a=b\n", "1 =\n", "2 =\n", "3 =\n", "5 =\n", "5 a=b\n", "7 a=b\n", "7 a=b=b\n", "9 a=b=b\n", "1024 a=b\n", "9999 a=b\n", "10 a=b\n", // another length
		"4==\n", "5a=b\n", "6\ta=b\n", "6\na=b\n", "6\x00a=b\n", "5=ab\n", "6.a=b\n", "6:a=b\n", // no blank
		"3 \n", "4 a\n", "5 ab\n", "5 ab\n=", "4 a\n4 =\n", // no =
		"6 a=bc", "6 a=b\r", "6 a=b\x00", "6 a=b ", "5 a=b", "4 ==", "3 =", // no byte 10
		"4", "44", "444", "4444", "44444", "0", "0 ", "1", "2 ", "6 ", "6 a", "6 a=", "6 a=b", "0006", "0006 ", "\x00", // a part of one
	}
}

// Records that say nothing: one, each two of them one behind the other, all together; and a file's name and size behind them.
func TestGoodRecords(t *testing.T) {
	last := plan{name: "b", kind: '0', data: "b"}.bytes()
	for _, one := range good() {
		wantAll(t, archive(extra(one), last), entry{"b", "b"})
		for _, two := range good() {
			wantWhole(t, archive(extra(one, two), last), api.None, entry{"b", "b"})
			wantWhole(t, archive(extra(one, record("path", "n"), two), last), api.None, entry{"n", "b"})
		}
	}
	wantAll(t, archive(extra(good()...), last), entry{"b", "b"})
}

// BadRecord: alone, behind others, and ahead of others; with the data's last byte.
func TestBadRecords(t *testing.T) {
	last := file("b", "b")
	for _, one := range bad() {
		want(t, archive(extra(one), last), 512+len(one), api.BadRecord)
		for _, ahead := range good() {
			want(t, archive(last, extra(ahead, one), last), 1536+len(ahead+one), api.BadRecord, entry{"b", "b"})
		}
		for _, behind := range append(good(), bad()...) {
			a := slowly(archive(extra(one, behind), last))
			wantWhole(t, archive(extra(one, behind), last), a.why, a.entries()...)
		}
		all := record("path", "n") + record("size", "7") + one
		want(t, archive(extra(all), last), 512+len(all), api.BadRecord)
	}
}

// All short texts of the bytes that mean something are read as the slow one reads them.
func TestAllShortRecords(t *testing.T) {
	const letters = "046 =\n"
	rows := []string{""}
	for range 6 {
		var longer []string
		for _, row := range rows {
			for _, c := range letters {
				longer = append(longer, row+string(c))
			}
		}
		for _, row := range longer {
			b := archive(plan{kind: 'x', data: row}.block(), []byte(row))
			a := slowly(b)
			wantWhole(t, b, a.why)
		}
		rows = longer
	}
}

// A record's digits: from one to four, noughts ahead, however long the record is.
func TestDigitsOfALength(t *testing.T) {
	last := file("b", "b")
	for digits := 1; digits < 8; digits++ {
		for _, n := range []int{8, 9, 10, 11, 99, 100, 101, 999, 1000, 1001, 1023, 1024} {
			if digits < len(fmt.Sprint(n)) {
				continue
			}
			row := fmt.Sprintf("%0*d k", digits, n)
			if len(row)+2 > n {
				continue
			}
			row += "=" + strings.Repeat("v", n-len(row)-2) + "\n"
			if len(row) != n {
				t.Fatalf("%d bytes instead of %d", len(row), n)
			}
			if digits <= 4 {
				wantAll(t, archive(extra(row), last), entry{"b", "b"})
			} else {
				want(t, archive(extra(row), last), 512+n, api.BadRecord)
			}
		}
	}
}

// Bytes that are no digits are none of a length, even where the record is as long as they would say, counted on from 0.
func TestNoDigitsOfALength(t *testing.T) {
	for v := range 256 {
		if v >= '0' && v <= '9' {
			continue
		}
		for _, counted := range []int{v - '0', (v - '0' + 256) % 256} {
			for ahead, first := range map[string]int{"": 0, "0": 0, "00": 0, "1": 10, "01": 10, "10": 100} {
				row := ahead + string([]byte{byte(v)}) + " k="
				n := first + counted
				if n <= len(row) {
					continue
				}
				row += strings.Repeat("v", n-len(row)-1) + "\n"
				want(t, archive(extra(row), file("b", "b")), 512+n, api.BadRecord)
			}
		}
	}
}

// A length that is one less, or one more, or reaches beyond the data.
func TestOtherLengths(t *testing.T) {
	for _, x := range []string{"path=ab\n", "size=3\n", "k=v\n", "k=v\n\n", "k=v=\n"} {
		for n := range 40 {
			row := fmt.Sprintf("%d %s", n, x)
			for _, tail := range []string{"", "\n", "\n\n", "9 size=3\n"} {
				b := archive(extra(row, tail), file("b", "b"), padded("xx"))
				a := hold(t, b)
				if n == len(row) && tail == "" && a.why == api.BadRecord {
					t.Fatalf("%q was refused", row)
				}
				if n != len(row) && tail == "" && a.why != api.BadRecord && !strings.HasSuffix(row[:min(n, len(row))], "\n") {
					t.Fatalf("%q was taken", row)
				}
			}
		}
	}
}

// A path is the name to come as it stands, any bytes in it; too long a one is BadName.
func TestPaths(t *testing.T) {
	p := plan{name: "short", prefix: "pre", magic: "ustar", kind: '0', data: "x"}
	for _, n := range []int{0, 1, 99, 100, 101, 255, 256, 257, 258, 512, 1000} {
		for _, c := range []string{"n", "=", "\n", "\x00", " ", "\xff"} {
			name := strings.Repeat(c, n)
			row := record("path", name)
			b := archive(extra(row), p.bytes(), p.bytes())
			if n > 256 {
				want(t, b, 512+len(row), api.BadName)
				continue
			}
			wantAll(t, b, entry{name, "x"}, entry{"pre/short", "x"})
		}
	}
	for _, name := range []string{"a=b", "a\nb", "a\x00b", "9 path=x\n", "a\n", "\na", "=a", " a "} {
		wantAll(t, archive(extra(record("path", name)), p.bytes()), entry{name, "x"})
	}
}

// A path twice, in one header and in two: the last one counts, but too long a one is none wherever it stands.
func TestPathTwice(t *testing.T) {
	p := file("short", "x")
	long257 := strings.Repeat("n", 257)
	long256 := strings.Repeat("m", 256)
	for _, one := range []string{"", "a", long256} {
		for _, two := range []string{"", "b", long256} {
			both := record("path", one) + record("path", two)
			wantAll(t, archive(extra(both), p), entry{two, "x"})
			wantAll(t, archive(extra(record("path", one)), extra(record("path", two)), p), entry{two, "x"})
		}
		both := record("path", long257) + record("path", one)
		want(t, archive(extra(both), p), 512+len(both), api.BadName)
		both = record("path", one) + record("path", long257)
		want(t, archive(extra(both), p), 512+len(both), api.BadName)
	}
}

// A size to come: digits of a number below 2^63, noughts ahead, however many.
func TestSizesToCome(t *testing.T) {
	data := noise(600)
	head := plan{name: "a", kind: '0', size: "7\x00"}.block()
	for _, digits := range []string{"0", "1", "3", "511", "512", "513", "600", "00", "0003", "000000000000000000000000000000000000000000513", strings.Repeat("0", 1000), strings.Repeat("0", 1000) + "513"} {
		n := 0
		fmt.Sscanf(digits, "%d", &n)
		wantAll(t, archive(extra(record("size", digits)), head, padded(data[:n]), file("b", "b")), entry{"a", data[:n]}, entry{"b", "b"})
	}
	for _, digits := range []string{"601", "4294967296", "9223372036854775806", "9223372036854775807", "0009223372036854775807", strings.Repeat("0", 900) + "9223372036854775807"} {
		b := archive(extra(record("size", digits)), head, []byte(data))
		want(t, b, len(b), api.Cut, entry{"a", data})
	}
	wrong := []string{"", " ", "x", "-1", "+1", "1 ", " 1", "1x", "x1", "1_0", "0x1", "0b1", "0o1", "1e1", "1.0", "1,0", "\x00", "1\x00", "1\n", "\n1", "=1", "/", ":", "\xff", "\u0661", "\uff11",
		"9223372036854775808", "9223372036854775809", "9223372036854775810", "9999999999999999999", "10000000000000000000", "18446744073709551615", "18446744073709551616", "18446744073709551617", "36893488147419103233", "0018446744073709551617", strings.Repeat("9", 1000), "9223372036854775808x"}
	for _, digits := range wrong {
		row := record("size", digits)
		want(t, archive(extra(row), head, []byte(data)), 512+len(row), api.BadNumber)
	}
}

// The greatest size to come, by hand: 2^63 - 1 is one, 2^63 is none.
func TestGreatestSizeToCome(t *testing.T) {
	head := file("a", "")
	wantWhole(t, archive(extra(record("size", fmt.Sprint(uint64(math.MaxInt64)))), head, []byte("xy")), api.Cut, entry{"a", "xy"})
	wantWhole(t, archive(extra(record("size", fmt.Sprint(uint64(math.MaxInt64)+1))), head, []byte("xy")), api.BadNumber)
}

// A size to come twice, in one header and in two: the last one counts.
func TestSizeTwice(t *testing.T) {
	head := plan{name: "a", kind: '0', size: "7\x00"}.block()
	for _, ahead := range [][]byte{extra(record("size", "1"), record("size", "3")), archive(extra(record("size", "1")), extra(record("size", "3"))), archive(extra(record("size", "3")), extra(record("k", "v")), extra())} {
		wantAll(t, archive(ahead, head, padded("abc"), file("b", "b")), entry{"a", "abc"}, entry{"b", "b"})
	}
}

// A size to come of 0: the file ends with its header, whatever the header says.
func TestSizeToComeOfNothing(t *testing.T) {
	b := archive(extra(record("size", "0")), plan{name: "a", kind: '0', size: "1000\x00"}.block(), file("b", "b"))
	a := wantAll(t, b, entry{"a", ""}, entry{"b", "b"})
	if got := a.with(1536); !slices.Equal(got, []api.Event{opened("a"), closed}) {
		t.Errorf("with the header's last byte %v", got)
	}
}

// Records are gone through one behind the other: the first one that may not be says why.
func TestTheFirstRecordThatMayNotBe(t *testing.T) {
	name, size, none := record("path", strings.Repeat("n", 257)), record("size", "x"), "5 =\n"
	for _, x := range []struct {
		row string
		why api.Reason
	}{
		{name + size, api.BadName}, {size + name, api.BadNumber}, {none + name, api.BadRecord}, {none + size, api.BadRecord}, {name + none, api.BadName}, {size + none, api.BadNumber}, {"6 a=b\n" + size + name + none, api.BadNumber},
	} {
		want(t, archive(extra(x.row), file("a", "a")), 512+len(x.row), x.why)
	}
}

// What stops it is told with the data's last byte, not sooner, and the bytes may be cut off ahead of it.
func TestRecordsAreReadWithTheLastByte(t *testing.T) {
	for _, row := range []string{"5 =\n", "x" + record("k", strings.Repeat("v", 700)), record("path", strings.Repeat("n", 257)) + record("k", "v"), record("size", "-1") + record("k", "v")} {
		b := extra(row)
		why := slowly(b).why
		w := tar.New()
		feed(w, b[:512+len(row)-1])
		wantQuiet(t, w, api.None)
		if !w.Put(row[len(row)-1]) {
			t.Fatal("Put = false")
		}
		wantOver(t, w, why)
		w.Reset()
		feed(w, b[:512+len(row)-1])
		w.End()
		wantOver(t, w, api.Cut)
	}
}

// L and x, x and L: of the names to come the last one counts, and a size to come stays.
func TestNamesInBothWays(t *testing.T) {
	head := plan{name: "a", kind: '0', size: "7\x00"}.block()
	l, x := long("by L"), extra(record("path", "by x"))
	size := extra(record("size", "3"))
	for _, c := range []struct {
		ahead [][]byte
		name  string
	}{
		{[][]byte{l, x}, "by x"}, {[][]byte{x, l}, "by L"}, {[][]byte{l, l}, "by L"}, {[][]byte{x, x}, "by x"}, {[][]byte{l, x, l}, "by L"}, {[][]byte{x, l, x}, "by x"}, {[][]byte{l, extra()}, "by L"}, {[][]byte{l, extra(record("k", "v"))}, "by L"}, {[][]byte{x, long("")}, ""}, {[][]byte{long("other"), l}, "by L"}, {nil, "a"},
	} {
		for place := range len(c.ahead) + 1 {
			pieces := slices.Insert(slices.Clone(c.ahead), place, size)
			b := archive(archive(pieces...), head, padded("abc"), file("b", "b"))
			wantAll(t, b, entry{c.name, "abc"}, entry{"b", "b"})
		}
	}
}

// K and g between, of no data and of some blocks, of any data, change nothing (P16.4).
func TestHeadersBetween(t *testing.T) {
	head := plan{name: "a", kind: '0', size: "7\x00"}.block()
	pieces := [][]byte{long("name"), extra(record("size", "3")), archive(head, padded("abc")), long("second"), file("b", noise(513)), file("c", ""), zeros(512)}
	entries := []entry{{"name", "abc"}, {"second", noise(513)}, {"c", ""}}
	wantAll(t, archive(pieces...), entries...)
	for _, kind := range []byte{'K', 'g'} {
		for _, data := range []string{"", "x", record("path", "other") + record("size", "1"), "5 =\n", strings.Repeat("n", 258), string(zeros(1024)), noise(1025), noise(5000)} {
			between := plan{name: "between", kind: kind, data: data}.bytes()
			for place := range pieces {
				wantAll(t, archive(slices.Insert(slices.Clone(pieces), place, between, between)...), entries...)
			}
			wantAll(t, archive(append(slices.Clone(pieces), between)...), entries...)
		}
	}
}

// What is to come when the bytes end, or the archive, is no file.
func TestNothingComes(t *testing.T) {
	for _, ahead := range [][]byte{long("n"), long(""), extra(record("path", "n")), extra(record("size", "3")), extra(), plan{kind: 'K'}.bytes(), plan{kind: 'g', data: "x"}.bytes()} {
		wantAll(t, ahead)
		wantAll(t, archive(ahead, zeros(512)))
		wantAll(t, archive(ahead, zeros(512), file("a", "a")))
		want(t, archive(ahead, zeros(1)), len(ahead)+1, api.Cut)
	}
}
