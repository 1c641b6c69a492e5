package tar_test

import (
	"bytes"
	"encoding/binary"
	"fmt"
	"math"
	"slices"
	"strings"
	"testing"

	"winkle/api"
	"winkle/number"
	"winkle/tar"
)

// An archive is blocks: of each length that is an edge, of noughts, and of bytes that are no header.
func TestBytesOfEachLength(t *testing.T) {
	for _, n := range []int{0, 1, 511, 512, 513, 1023, 1024, 1025} {
		why := api.Cut
		if n == 0 || n >= 512 {
			why = api.None
		}
		want(t, zeros(n), n, why)
		for _, b := range []byte{1, ' ', '0', 0xff} {
			used, why := n, api.Cut
			switch {
			case n == 0:
				why = api.None
			case n >= 512:
				used, why = 512, api.BadSum
			}
			want(t, bytes.Repeat([]byte{b}, n), used, why)
		}
	}
}

// A block of noughts alone ends the archive, in the place of a header: what stands behind is not looked at.
func TestBlockOfNoughts(t *testing.T) {
	for _, tail := range [][]byte{nil, {0}, {1}, zeros(511), zeros(512), zeros(9000), []byte(noise(511)), []byte(noise(512)), []byte(noise(700)), file("b", "xyz")} {
		wantAll(t, archive(zeros(512), tail))
		wantAll(t, archive(file("a", "abc"), zeros(512), tail), entry{"a", "abc"})
		wantAll(t, archive(file("a", ""), zeros(512), tail), entry{"a", ""})
		wantAll(t, archive(long("n"), zeros(512), tail))
		wantAll(t, archive(extra(record("size", "9")), zeros(512), tail))
	}
}

// A block of noughts within data, of a file and of others, is data.
func TestBlockOfNoughtsWithinData(t *testing.T) {
	data := string(zeros(512)) + "x" + string(zeros(1100))
	wantAll(t, archive(file("a", data), file("b", "b")), entry{"a", data}, entry{"b", "b"})
	for _, kind := range []byte{'5', 'K', 'g'} {
		wantAll(t, archive(plan{kind: kind, data: data}.bytes(), file("b", "b")), entry{"b", "b"})
	}
	name := string(zeros(257))
	wantAll(t, archive(long(name), file("b", "b")), entry{"", "b"})
}

// A block that is not of noughts alone does not end it, wherever its only other byte stands.
func TestNearlyNoughts(t *testing.T) {
	for place := range 512 {
		for _, v := range []byte{1, 0x80} {
			b := change(zeros(1024), place, v)
			want(t, b, 512, api.BadSum)
			want(t, archive(file("a", "a"), b), 1536, api.BadSum, entry{"a", "a"})
		}
	}
}

// BadSum: each byte of a header turned; in the sum field what says the same number is right.
func TestEachByteOfAHeaderTurned(t *testing.T) {
	p := plan{name: "a/b\xff", prefix: "pre", magic: "ustar\x0000", kind: '0', data: "abc", link: "none"}
	b := p.bytes()
	for place := range 512 {
		for _, with := range []byte{1, 0x80, 0xff} {
			turned := change(b, place, b[place]^with)
			if place < 148 || place > 155 {
				want(t, turned, 512, api.BadSum)
				want(t, archive(file("first", "1"), turned), 1536, api.BadSum, entry{"first", "1"})
				continue
			}
			if hold(t, turned).why == api.None && !number.Right(turned[:512]) {
				t.Fatalf("byte %d turned by %d was taken", place, with)
			}
		}
	}
}

// The sum of bytes above 127 may be taken either way.
func TestEitherSum(t *testing.T) {
	p := plan{name: "\xff\x80name", kind: '0', data: "abc"}
	b := p.block()
	wantAll(t, archive(b, padded("abc")), entry{"\xff\x80name", "abc"})
	wantAll(t, archive(signedSummed(b), padded("abc")), entry{"\xff\x80name", "abc"})
	wrong := slices.Clone(b)
	copy(wrong[148:156], "0000001\x00")
	want(t, archive(wrong, padded("abc")), 512, api.BadSum)
}

// sizeFields writes a number into a size's field in each way in which chapter 5 reads it.
func sizeFields(v uint64) []string {
	var list []string
	if v < 1<<36 {
		octal := fmt.Sprintf("%o", v)
		list = append(list, fmt.Sprintf("%012o", v), octal, octal+" ", octal+"\x00 \x00", fmt.Sprintf("%12s", octal))
	}
	if v < 1<<33 {
		octal := fmt.Sprintf("%o", v)
		list = append(list, fmt.Sprintf("%011o\x00", v), fmt.Sprintf("%11s ", octal), fmt.Sprintf(" %010o ", v))
	}
	b := binary.BigEndian.AppendUint64([]byte{0x80, 0, 0, 0}, v)
	return append(list, string(b))
}

// The size, in each way in which it may be written, at the edges of blocks.
func TestSizes(t *testing.T) {
	for _, n := range []int{0, 1, 2, 511, 512, 513, 1023, 1024, 1025, 4096} {
		data := noise(n)
		for _, field := range sizeFields(uint64(n)) {
			if field == "" {
				t.Fatal("no field")
			}
			for _, kind := range []byte{'0', 0, '7', '5', 'K', 'g'} {
				p := plan{name: "a", kind: kind, size: field, data: data}
				list := []entry{{"a", data}, {"b", "b"}}
				if kind != '0' && kind != 0 && kind != '7' {
					list = list[1:]
				}
				wantAll(t, archive(p.bytes(), file("b", "b")), list...)
			}
		}
	}
}

// A size's field of no digits is 0: of bytes 0, of blanks, of both.
func TestSizeWithoutDigits(t *testing.T) {
	for _, field := range []string{"\x00", strings.Repeat(" ", 12), "     \x00", " \x00  \x00", "\x00           "} {
		b := plan{name: "a", kind: '0', size: field}.block()
		a := wantAll(t, archive(b, file("b", "")), entry{"a", ""}, entry{"b", ""})
		if got := a.with(512); !slices.Equal(got, []api.Event{opened("a"), closed}) {
			t.Errorf("with the header's last byte %v", got)
		}
	}
}

// BadNumber: with the header's last byte, of every kind, and ahead of what its kind says.
func TestSizeThatIsNone(t *testing.T) {
	fields := []string{"8", "9", "1x", "x", "-1", "+1", "1\x001", "1 1", "\x001", "0x1", "1.", "\t1", "00000000000a", strings.Repeat("\xff", 12), "\xc0", "\xc0\x00\x00\x00\x00\x00\x00\x00\x00\x00\x00\x01",
		"\x80\x00\x00\x00\x80\x00\x00\x00\x00\x00\x00\x00", "\x80\x00\x00\x01\x00\x00\x00\x00\x00\x00\x00\x00", "\xbf" + strings.Repeat("\xff", 11), "\x81" + strings.Repeat("\x00", 11), "\x7f", "777777777778"}
	for _, field := range fields {
		for _, kind := range []byte{'0', 0, '7', '5', 'K', 'g', 'L', 'x', 0xff} {
			b := plan{name: "a", kind: kind, size: field}.block()
			want(t, archive(b, file("b", "b")), 512, api.BadNumber)
			want(t, archive(file("b", "b"), b), 1536, api.BadNumber, entry{"b", "b"})
			want(t, archive(extra(record("size", "1")), b, padded("x")), 1536, api.BadNumber)
		}
	}
}

// BadSum is named ahead of BadNumber, and of what the kind says.
func TestSumAheadOfNumber(t *testing.T) {
	for _, p := range []plan{{kind: '0', size: "x"}, {kind: 'L', size: "402\x00"}, {kind: 'x', size: "2001\x00"}, {kind: '0'}} {
		b := p.block()
		want(t, change(b, 0, 'z'), 512, api.BadSum)
	}
}

// The greatest sizes: the file goes on, whatever comes, and the bytes end within its data.
func TestGreatestSizes(t *testing.T) {
	for _, v := range []uint64{1 << 31, 1<<32 - 1, 1 << 32, 1<<33 - 1, 1 << 33, 1<<36 - 1, 1 << 36, math.MaxInt64 - 511, math.MaxInt64 - 1, math.MaxInt64} {
		for _, field := range sizeFields(v) {
			for _, n := range []int{0, 1, 512, 1024, 1500} {
				data := noise(n)
				b := plan{name: "a", kind: '0', size: field}.block()
				want(t, archive(b, []byte(data)), 512+n, api.Cut, entry{"a", data})
				b = plan{name: "a", kind: '5', size: field}.block()
				want(t, archive(b, []byte(data)), 512+n, api.Cut)
				b = plan{name: "a", kind: 'g', size: field}.block()
				want(t, archive(b, zeros(n)), 512+n, api.Cut)
				b = plan{name: "a", kind: 'L', size: field}.block()
				want(t, archive(b, []byte(data)), 512, api.BadName)
				b = plan{name: "a", kind: 'x', size: field}.block()
				want(t, archive(b, []byte(data)), 512, api.BadName)
			}
		}
	}
}

// Every kind: a file of 0, the byte 0 and 7; L, x, K, g by their own; of every other one the data is passed over.
func TestEveryKind(t *testing.T) {
	for v := range 256 {
		kind := byte(v)
		for _, data := range []string{"", "ab", record("path", "xx"), noise(512), noise(513)} {
			b := archive(plan{name: "a", kind: kind, data: data}.bytes(), file("b", "b"))
			last := entry{"b", "b"}
			switch {
			case kind == '0' || kind == 0 || kind == '7':
				wantAll(t, b, entry{"a", data}, last)
			case kind == 'L' && len(data) <= 257:
				wantAll(t, b, entry{data, "b"})
			case kind == 'L':
				want(t, b, 512, api.BadName)
			case kind == 'x' && data == record("path", "xx"):
				wantAll(t, b, entry{"xx", "b"})
			case kind == 'x' && data != "":
				want(t, b, 512+len(data), api.BadRecord)
			default:
				wantAll(t, b, last)
			}
		}
	}
}

// What is to come is used up by a header of every kind but those four, a file's or not, and by none of these.
func TestWhatIsToComeAndEveryKind(t *testing.T) {
	for v := range 256 {
		kind := byte(v)
		b := archive(long("n"), extra(record("size", "3")), plan{name: "a", kind: kind, size: "1\x00", data: ""}.block())
		last := file("b", "b")
		switch kind {
		case '0', 0, '7':
			wantAll(t, archive(b, padded("abc"), last), entry{"n", "abc"}, entry{"b", "b"})
		case 'L':
			wantAll(t, archive(b, padded("z"), plan{kind: '0', size: "7\x00"}.block(), padded("abc")), entry{"z", "abc"})
		case 'x':
			want(t, archive(b, padded("z"), last), len(b)+1, api.BadRecord)
		case 'K', 'g':
			wantAll(t, archive(b, padded("z"), plan{kind: '0', size: "7\x00"}.block(), padded("abc")), entry{"n", "abc"})
		default:
			wantAll(t, archive(b, padded("abc"), last), entry{"b", "b"})
		}
	}
}

// How far what was to come reaches into data: a size to come is a header's that is no file, too.
func TestSizeToComeOfNoFile(t *testing.T) {
	for _, n := range []int{0, 1, 511, 512, 513, 1025} {
		b := archive(extra(record("size", fmt.Sprint(n))), plan{kind: '5', size: "5\x00"}.block(), padded(noise(n)))
		wantAll(t, archive(b, file("b", "b")), entry{"b", "b"})
		if n > 0 {
			want(t, b[:len(b)-1], len(b)-1, api.Cut)
		}
	}
}

// texts are names' fields' edges: how long, and with a 0 where.
func texts(most int) []string {
	list := []string{"", "a", "a\x00b", "\x00b", "a\x00\x00b", "\xff\x80\x01", " a ", "../a", "/"}
	for _, n := range []int{most - 2, most - 1, most} {
		full := strings.Repeat("n", n)
		list = append(list, full, full[:n-1]+"\x00", full[:n/2]+"\x00"+full[n/2+1:])
	}
	return list
}

// The name's field's text, without ustar and with it, with a prefix and without.
func TestNames(t *testing.T) {
	for _, magic := range []string{"", "ustar", "ustar\x0000", "ustar  \x00", "ustarxyz", "Ustar", "ustaR", "usta", "\x00ustar", "star", "uSTAR"} {
		for _, name := range texts(100) {
			for _, prefix := range texts(155) {
				wanted, _, _ := strings.Cut(name, "\x00")
				ahead, _, _ := strings.Cut(prefix, "\x00")
				if strings.HasPrefix(magic, "ustar") && ahead != "" {
					wanted = ahead + "/" + wanted
				}
				p := plan{name: name, magic: magic, prefix: prefix, kind: '0', data: "d"}
				wantWhole(t, p.bytes(), api.None, entry{wanted, "d"})
				if len(prefix) < 4 {
					wantAll(t, p.bytes(), entry{wanted, "d"})
				}
			}
		}
	}
}

// Each byte around the fields of a name belongs to it or not.
func TestWhereNamesStand(t *testing.T) {
	p := plan{name: strings.Repeat("n", 100), magic: "ustar", prefix: strings.Repeat("p", 155), kind: '0'}
	whole := p.prefix + "/" + p.name
	for place := range 512 {
		if place >= 124 && place < 136 || place == 156 || place >= 148 && place < 156 {
			continue
		}
		wanted := whole
		switch {
		case place < 100:
			wanted = whole[:156] + string(change([]byte(p.name), place, 'X'))
		case place >= 257 && place <= 261:
			wanted = p.name
		case place >= 345 && place <= 499:
			wanted = string(change([]byte(p.prefix), place-345, 'X')) + whole[155:]
		}
		b := summed(change(p.block(), place, 'X'))
		if string(b) == string(p.block()) {
			t.Fatal("nothing was changed")
		}
		wantAll(t, b, entry{wanted, ""})
	}
}

// The longest name that a header can say itself is as long as a name may be.
func TestLongestOwnName(t *testing.T) {
	p := plan{name: strings.Repeat("n", 100), magic: "ustar", prefix: strings.Repeat("p", 155), kind: '0', data: "d"}
	names, _, why := tar.Whole(p.bytes())
	if why != api.None || len(names) != 1 || len(names[0]) != api.MaxName {
		t.Errorf("%q %d", names, why)
	}
}
