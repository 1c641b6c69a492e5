package zip_test

import (
	"math"
	"slices"
	"strings"
	"testing"

	"winkle/api"
)

// overs are all in which the entries may be over.
func overs() []string { return []string{"PK\x01\x02", "PK\x05\x06", "PK\x06\x06", "PK\x06\x07"} }

// P17.1: in the place of an entry each of the first two bytes by every byte, of the first entry and of a later one; BadMagic with the byte that shows it.
func TestFirstTwoBytes(t *testing.T) {
	for _, first := range []bool{true, false} {
		var ahead []byte
		var entries []entry
		if !first {
			ahead, entries = file("first", "1"), []entry{{"first", "1"}}
		}
		for _, magic := range append(overs(), "PK\x03\x04") {
			for place := range 2 {
				for v := range 256 {
					if byte(v) != magic[place] {
						b := change([]byte(magic), place, byte(v))
						want(t, archive(ahead, b, file("b", "b")), len(ahead)+place+1, api.BadMagic, entries...)
					}
				}
			}
		}
	}
}

// P17.1: the third byte, and the fourth one, by every byte, together.
func TestLastTwoBytes(t *testing.T) {
	last := map[int][]int{1: {2}, 3: {4}, 5: {6}, 6: {6, 7}}
	tail := file("b", "b")[4:]
	for _, ahead := range [][]byte{nil, file("first", "1"), plan{method: 8, flags: 8}.bytes(), plan{flags: 1, data: "x"}.bytes()} {
		told := slowly(ahead).entries()
		for third := range 256 {
			for fourth := range 256 {
				if third > 8 && fourth > 8 {
					continue // with the third one it is stopped, whatever the fourth one is
				}
				b := archive(ahead, []byte{'P', 'K', byte(third), byte(fourth)}, tail)
				switch {
				case last[third] == nil:
					want(t, b, len(ahead)+3, api.BadMagic, told...)
				case !slices.Contains(last[third], fourth):
					want(t, b, len(ahead)+4, api.BadMagic, told...)
				case third == 3:
					want(t, b, len(b), api.Cut, append(slices.Clone(told), entry{"b", "b"})...)
				default:
					want(t, b, len(b), api.None, told...)
				}
			}
		}
	}
}

// Where the entries are over, what stands behind is not looked at.
func TestBehindTheEnd(t *testing.T) {
	tails := []string{"", "\x00", "P", "PK", "PK\x03\x04", "PK\x07\x08", noise(700), string(file("b", "b")), string(all()), strings.Repeat("\x00", 5000)}
	for v := range 256 {
		tails = append(tails, string([]byte{byte(v)}), strings.Repeat(string([]byte{byte(v)}), 4))
	}
	for _, magic := range overs() {
		for _, tail := range tails {
			b := []byte(magic + tail)
			want(t, b, len(b), api.None)
			b = archive(file("a", "abc"), b)
			want(t, b, len(b), api.None, entry{"a", "abc"})
			b = archive(plan{flags: 1, data: "x"}.bytes(), b[len(b)-len(magic+tail):])
			want(t, b, len(b), api.None)
		}
	}
}

// Four bytes that end the entries stand in the place of an entry alone; elsewhere they are what stands there.
func TestMagicsElsewhere(t *testing.T) {
	for _, magic := range append(overs(), "PK\x03\x04", "PK\x07\x08") {
		wantAll(t, plan{name: magic, extra: magic, data: magic}.bytes(), entry{magic, magic})
		wantAll(t, plan{flags: 1, data: magic + magic}.bytes())
		for _, p := range ways(magic, magic+"x"+magic) {
			wantAll(t, archive(p.bytes(), p.bytes()), entry{magic, p.data}, entry{magic, p.data})
		}
	}
}

// What the header says may be anything, is.
func TestAnythingInTheHeader(t *testing.T) {
	for v := range 256 {
		for _, p := range []plan{abc(), {flags: 8, method: 8, name: "a", data: "abc"}} {
			p.other = byte(v)
			wantAll(t, p.bytes(), entry{"a", "abc"})
		}
		p := plan{flags: 1, data: "xyz", other: byte(v)}
		wantAll(t, archive(p.bytes(), file("a", "")), entry{"a", ""})
	}
	b := archive(file("a", "abc"), over)
	for _, place := range []int{4, 5, 10, 11, 12, 13} {
		for _, v := range []byte{1, 3, 9, 'P', 0xff} {
			want(t, change(b, place, v), len(b), api.None, entry{"a", "abc"})
		}
	}
}

// Every byte of a header by every byte: what is told is what the slow one tells.
func TestEveryByteOfAHeader(t *testing.T) {
	for _, p := range []plan{{name: "na", extra: record(1, noise(16)), data: "abc"}, {name: "na", extra: record(1, ""), data: "abc", flags: 8, method: 8, wide: true}, {name: "n", data: "abc", method: 8, packed: squeezed("abc", 9)}} {
		b := archive(p.bytes(), file("b", "b"), over)
		for place := range p.header() {
			for v := range 256 {
				a := hold(t, change(b, place, byte(v)))
				if a.why == api.None && a.used != len(b) {
					t.Fatalf("byte %d as %d: %d bytes were used", place, v, a.used)
				}
			}
		}
	}
}

// P17.1: the EventOpen, with the name, comes with the header's last byte, and nothing else is known with the others.
func TestHeaderEnds(t *testing.T) {
	for _, name := range []string{"", "n", "na", strings.Repeat("n", 256)} {
		for _, extra := range []string{"", "x", "xy", "xyz", record(9, ""), record(9, "") + "x", record(9, "ab"), record(1, ""), record(1, noise(16)) + record(2, "xyz"), noise(1024)} {
			for _, p := range ways(name, "abc") {
				if p.wide {
					continue
				}
				p.extra = extra
				p.wide = strings.HasPrefix(extra, "\x01\x00")
				n := len(p.header())
				a := wantAll(t, p.bytes(), entry{name, "abc"})
				for i := range n {
					if got := a.with(i); len(got) != 0 {
						t.Fatalf("with byte %d of %d: %v", i, n, got)
					}
				}
				if got := a.with(n); !slices.Equal(got, []api.Event{opened(name)}) {
					t.Fatalf("with the header's last byte %v", got)
				}
			}
		}
	}
}

// A name of each length that is an edge; BadName with the thirtieth byte.
func TestLengthsOfNames(t *testing.T) {
	for _, n := range []int{0, 1, 2, 127, 128, 254, 255, 256, 257, 258, 511, 512, 513, 1024, 32768, 65535} {
		for _, p := range append(ways(noise(n), "abc"), plan{name: noise(n), flags: 1, data: "abc"}, plan{name: noise(n), method: 9, data: "abc"}) {
			b := archive(file("first", "1"), p.bytes())
			list := []entry{{"first", "1"}}
			if n > 256 {
				want(t, b, len(file("first", "1"))+headLen, api.BadName, list...)
				continue
			}
			if p.flags&1 == 0 && p.method != 9 {
				list = append(list, entry{p.name, "abc"})
			}
			wantAll(t, b, list...)
		}
	}
}

// A name may be of any bytes.
func TestBytesOfNames(t *testing.T) {
	for v := range 256 {
		name := string([]byte{byte(v)})
		wantAll(t, archive(file(name, "x"), file("a"+name+"b", "")), entry{name, "x"}, entry{"a" + name + "b", ""})
	}
	for _, name := range []string{"\x00\x00", "../a", "a\x00b", "caf\xe9", "\xff\xfe", "a/b/", " "} {
		wantAll(t, file(name, "x"), entry{name, "x"})
	}
}

// An extra of each length that is an edge, of bytes 0, of others, and as one record; BadName with the thirtieth byte.
func TestLengthsOfExtras(t *testing.T) {
	for _, n := range []int{0, 1, 2, 3, 4, 5, 7, 8, 9, 12, 255, 256, 257, 1020, 1021, 1023, 1024, 1025, 1026, 1279, 1280, 2048, 32768, 65535} {
		extras := []string{strings.Repeat("\x00", n), strings.Repeat("\xff", n), strings.Repeat("\x02", n)}
		if n >= 4 {
			extras = append(extras, record(9, noise(n-4)))
		}
		for _, extra := range extras {
			for _, p := range []plan{{name: "a", data: "abc"}, {name: "", data: "abc"}, {name: "a", data: "abc", method: 8}, {name: "a", data: "abc", method: 8, flags: 8}, {name: "a", data: "abc", flags: 1}} {
				p.extra = extra
				switch {
				case n > 1024:
					want(t, p.bytes(), headLen, api.BadName)
				case p.flags == 1:
					wantAll(t, archive(p.bytes(), file("b", "b")), entry{"b", "b"})
				default:
					wantAll(t, archive(p.bytes(), file("b", "b")), entry{p.name, "abc"}, entry{"b", "b"})
				}
			}
		}
	}
}

// BadName is told with the thirtieth byte, of either length, whatever else the header says; no sooner, and no later.
func TestBadNameAheadOfAll(t *testing.T) {
	for _, lengths := range [][2]uint64{{257, 0}, {0, 1025}, {257, 1025}, {256, 1025}, {257, 1024}, {65535, 65535}, {0x100 + 1, 4}, {4, 0x400 + 1}} {
		for _, p := range []plan{abc(), {flags: 8, data: "abc"}, {flags: 9, data: "abc"}, {method: 9, data: "abc"}, {method: 8, data: "abc"}} {
			b := set(set(p.bytes(), nameLenAt, 2, lengths[0]), extraLenAt, 2, lengths[1])
			want(t, set(b, packedAt, 4, 99), headLen, api.BadName)
			want(t, b[:headLen], headLen, api.BadName)
			want(t, b[:headLen-1], headLen-1, api.Cut)
		}
	}
	b := set(set(plan{}.header(), nameLenAt, 2, 256), extraLenAt, 2, 1024)
	want(t, b, headLen, api.Cut)
	want(t, archive(b, []byte(noise(256+1023))), headLen+256+1023, api.Cut)
	wantAll(t, archive(b, []byte(noise(256)), make([]byte, 1024)), entry{noise(256), ""})
}

// Every method: of 0 and 8 an entry is told, of every other one it is passed over, or Lost.
func TestMethods(t *testing.T) {
	list := []int{256, 257, 264, 265, 512, 2048, 2056, 0x8000, 0x8008, 0xff00, 0xfff8, 0xffff}
	for v := range 256 {
		list = append(list, v)
	}
	for _, method := range list {
		p := plan{method: method, name: "a", data: "abc"}
		b := archive(p.bytes(), file("b", "b"))
		if method == 0 || method == 8 {
			wantAll(t, b, entry{"a", "abc"}, entry{"b", "b"})
		} else {
			wantAll(t, b, entry{"b", "b"})
		}
		p.flags = 8
		b = archive(p.bytes(), file("b", "b"))
		if method == 8 {
			wantAll(t, b, entry{"a", "abc"}, entry{"b", "b"})
		} else {
			want(t, b, headLen+1, api.Lost)
		}
	}
}

// holdFlags holds an entry of some flags and a method.
func holdFlags(t *testing.T, flags, method int) {
	t.Helper()
	p := plan{flags: flags, method: method, name: "a", data: "abc"}
	b := archive(p.bytes(), file("b", "b"))
	last := entry{"b", "b"}
	read := flags%2 == 0 && method != 9
	switch {
	case flags&8 != 0 && !(read && method == 8):
		want(t, b, headLen+1, api.Lost)
	case read:
		wantAll(t, b, entry{"a", "abc"}, last)
	default:
		wantAll(t, b, last)
	}
}

// Each flag alone, and flags together: 1 and 8 alone say something.
func TestFlags(t *testing.T) {
	for _, method := range []int{0, 8, 9} {
		for n := range 16 {
			holdFlags(t, 1<<n, method)
			holdFlags(t, 0xffff&^(1<<n), method)
			for m := range n {
				holdFlags(t, 1<<n|1<<m, method)
			}
		}
		for flags := range 256 {
			holdFlags(t, flags, method)
			holdFlags(t, flags|0xff00, method)
			holdFlags(t, flags<<8, method)
			holdFlags(t, flags<<8|9, method)
		}
	}
}

// Lost comes with the header's last byte, tells no event, and is named ahead of BadSize.
func TestLost(t *testing.T) {
	for _, p := range []plan{{flags: 8}, {flags: 9}, {flags: 9, method: 8}, {flags: 8, method: 9}, {flags: 9, method: 9}} {
		p.name, p.data = "a", "abc"
		for _, extra := range []string{"", "x", record(9, "xyz"), record(1, noise(16))} {
			p.extra = extra
			for _, c := range []uint64{0, 3, 4, 1<<32 - 1} {
				b := set(archive(file("first", ""), p.bytes(), over), headLen+5+packedAt, 4, c)
				a := want(t, b, headLen+5+len(p.header()), api.Lost, entry{"first", ""})
				if got := a.with(a.used); len(got) != 0 {
					t.Fatalf("with the byte that stops it: %v", got)
				}
			}
		}
	}
}

// What is passed over: of no bytes, of one, of many, whatever these are, and whatever the sum and the size are.
func TestPassedOver(t *testing.T) {
	for _, n := range []int{0, 1, 2, 3, 4, 30, 255, 256, 300, 65536} {
		for _, data := range []string{noise(n), strings.Repeat("PK\x05\x06", n)[:n], strings.Repeat(string(file("b", "b")), n)[:n]} {
			for _, p := range []plan{{flags: 1}, {flags: 1, method: 8}, {method: 9}, {method: 12, flags: 0x801}, {method: 0x0800}} {
				p.name, p.data, p.packed = "a", data, []byte(data)
				for _, u := range []uint64{uint64(n), 0, 1<<32 - 1} {
					b := set(set(p.bytes(), sizeAt, 4, u), sumAt, 4, 77)
					wantAll(t, archive(b, file("b", "b")), entry{"b", "b"})
					if n > 0 {
						want(t, b[:len(b)-1], len(b)-1, api.Cut)
					}
					if n > 1000 {
						break
					}
				}
			}
		}
	}
}

// What is passed over may be more than there is.
func TestPassedOverOfGreatestNumbers(t *testing.T) {
	for _, c := range []uint64{1000, 1<<31 - 1, 1 << 31, 1<<32 - 2, 1<<32 - 1, 1 << 32, 1<<32 + 3, 1<<63 - 1, 1 << 63, 1<<64 - 2, math.MaxUint64} {
		for _, p := range []plan{{flags: 1}, {method: 9}} {
			p.name = "a"
			b := set(p.header(), packedAt, 4, min(c, 1<<32-1))
			if c >= 1<<32-1 {
				p.extra = record(1, string(little(c, 8)))
				b = set(p.header(), packedAt, 4, 1<<32-1)
			}
			b = archive(b, []byte("xyz"), over, file("b", "b"))
			want(t, b, len(b), api.Cut)
		}
	}
}

// sizes are what a header says of an entry's sizes, and its record of the id 1.
type sizes struct {
	u, c uint64
	says string
}

// told tells both sizes, by the chapter's words.
func (s sizes) told() (u, c uint64) {
	u, c = s.u, s.c
	rest := s.says
	next := func() uint64 {
		v := uint64(0)
		for i := range 8 {
			v += uint64(rest[i]) << (8 * i)
		}
		rest = rest[8:]
		return v
	}
	if u == 1<<32-1 && len(rest) >= 8 {
		u = next()
	}
	if c == 1<<32-1 && len(rest) >= 8 {
		c = next()
	}
	return u, c
}

// allSizes are such of the numbers that matter for an entry of so many bytes.
func allSizes(size, packed uint64) []sizes {
	const none = 1<<32 - 1
	var list []sizes
	for _, u := range []uint64{size, none, none - 1} {
		for _, c := range []uint64{packed, none, none - 1} {
			for _, x := range []uint64{size, packed, none, size + 1, size + 1<<32} {
				for _, y := range []uint64{size, packed, none, packed - 1, packed + 1<<63} {
					both := string(little(x, 8)) + string(little(y, 8)) + "tail, and more"
					for _, n := range []int{0, 1, 7, 8, 9, 15, 16, 17, 24, 30} {
						list = append(list, sizes{u, c, both[:n]})
					}
				}
			}
		}
	}
	return list
}

// sized is what is wanted of an entry of such sizes, one that is read or not.
func sized(t *testing.T, p plan, s sizes) {
	t.Helper()
	p.extra = record(9, "other") + record(1, s.says) + record(1, noise(16)) + "x"
	h := len(p.header())
	b := archive(set(set(p.bytes(), packedAt, 4, s.c), sizeAt, 4, s.u), over)
	u, c := s.told()
	n, given := uint64(len(p.body())), uint64(len(p.data))
	read := p.flags == 0 && p.method != 9
	switch {
	case !read && c == n:
		want(t, b, len(b), api.None)
	case !read:
		if a := hold(t, b); a.why != api.Cut && a.why != api.BadMagic || len(a.events) > 0 {
			t.Fatalf("%v: %d", s, a.why)
		}
	case p.method == 0 && c != u:
		want(t, b, h, api.BadSize)
	case c == n && u == given:
		want(t, b, len(b), api.None, entry{p.name, p.data})
	case p.method == 8 && c < n:
		want(t, b, h+int(c), api.BadSize, entry{p.name, p.data[:max(0, int(c)-5)]})
	case p.method == 8:
		want(t, b, h+int(n), api.BadSize, entry{p.name, p.data})
	default:
		if a := hold(t, b); a.why != api.Cut && a.why != api.BadSum {
			t.Fatalf("%v: %d", s, a.why)
		}
	}
}

// The record of the id 1, of each length that is an edge, with U, with C, with both and with neither of them ffffffff: U comes first, and what it has no eight bytes for stays as it is.
func TestWideSizes(t *testing.T) {
	for _, p := range []plan{{}, {method: 8}, {flags: 1}, {method: 9}} {
		p.name, p.data = "a", "abc"
		for _, s := range allSizes(3, uint64(len(p.body()))) {
			sized(t, p, s)
		}
	}
}

// The same by hand: what the header says, what the record says, and what comes of it, for a stored entry of three bytes.
func TestWideSizesByHand(t *testing.T) {
	const none = "\xff\xff\xff\xff"
	three, four, great := "\x03\x00\x00\x00", "\x04\x00\x00\x00", "\x03\x00\x00\x00\x01\x00\x00\x00"
	long := func(v string) string { return v + "\x00\x00\x00\x00" }
	for i, x := range []struct {
		c, u, says string
		why        api.Reason
	}{
		{three, three, "", api.None}, {three, three, long(four) + long(four), api.None},
		{three, none, long(three), api.None}, {three, none, long(three) + long(four), api.None}, {three, none, long(four), api.BadSize}, {three, none, long(three)[:7], api.BadSize}, {three, none, great, api.BadSize},
		{none, three, long(three), api.None}, {none, three, long(three) + long(four), api.None}, {none, three, long(four) + long(three), api.BadSize}, {none, three, "", api.BadSize},
		{none, none, long(three) + long(three), api.None}, {none, none, long(three) + long(three) + long(four), api.None}, {none, none, long(three) + long(four), api.BadSize}, {none, none, long(four) + long(three), api.BadSize}, {none, none, long(three), api.BadSize}, {none, none, long(three) + long(three)[:7], api.BadSize}, {none, none, great + great, api.Cut}, {none, none, long(three)[:7], api.Cut}, {none, none, "", api.Cut}, {none, none, long(none) + long(three), api.BadSize},
	} {
		p := plan{name: "a", extra: record(1, x.says), data: "abc"}
		b := p.bytes()
		copy(b[packedAt:], x.c)
		copy(b[sizeAt:], x.u)
		b = archive(b, over)
		used, entries := len(b), []entry{{"a", "abc"}}
		switch x.why {
		case api.BadSize:
			used, entries = len(p.header()), nil
		case api.Cut:
			entries[0].data += string(over)
		}
		if a := want(t, b, used, x.why, entries...); a.why != x.why {
			t.Errorf("%d: %d", i, a.why)
		}
	}
}

// wideBy holds it that an extra makes an entry wide, or not: by how many bytes the numbers behind its data have.
func wideBy(t *testing.T, extra string, wide bool) {
	t.Helper()
	p := plan{name: "a", extra: extra, data: strings.Repeat("x", 40), method: 8, flags: 8, wide: wide}
	wantAll(t, archive(p.bytes(), file("b", "b")), entry{"a", p.data}, entry{"b", "b"})
	p.wide = !wide
	b := archive(p.bytes(), file("b", "b"), over)
	n := len(p.header()) + len(p.body()) + 4
	if wide {
		want(t, b, n+16, api.BadSize, entry{"a", p.data})
	} else {
		want(t, b, n+8, api.BadSize, entry{"a", p.data})
	}
}

// Which extras make an entry wide: a record of the id 1, of any length, wherever it stands, that does not go beyond the extra.
func TestWideByExtra(t *testing.T) {
	for n := range 40 {
		wideBy(t, record(1, noise(n)), true)
		wideBy(t, record(9, noise(n))+record(1, ""), true)
		wideBy(t, record(1, "")+record(9, noise(n))+"xyz", true)
		wideBy(t, record(1, noise(n))+record(1, noise(n)), true)
		wideBy(t, record(9, noise(n))+record(1, noise(9)), true)
		wideBy(t, record(9, noise(n)+record(1, "")), false)
		wideBy(t, record(2, noise(n))+"\x01\x00\x00", false)
		wideBy(t, strings.Repeat(record(2, ""), n), false)
		wideBy(t, strings.Repeat(record(2, ""), n)+record(1, "a"), true)
		wideBy(t, strings.Repeat(record(2, "ab"), n)+record(3, "")+record(1, ""), true)
		if n > 0 {
			wideBy(t, record(1, noise(n))[:4+n-1], false)
			wideBy(t, record(1, noise(n))[:4], false)
			wideBy(t, record(9, noise(n+8))[:4]+record(1, "")+noise(n), false)
			wideBy(t, record(9, noise(n))[:3], false)
		}
	}
	for _, extra := range []string{"", "\x01", "\x01\x00", "\x01\x00\x00", "\x00\x01\x00\x00", "\x01\x00\x01\x00", "\x01\x00\x00\x01", "\x01\x01\x00\x00", "\x00\x00\x00\x00", "\x01\x00\xff\xff"} {
		wideBy(t, extra, false)
		wideBy(t, extra+strings.Repeat("\x02", 3), extra == "\x01\x00\x01\x00")
	}
	wideBy(t, record(9, strings.Repeat("\x01\x00", 500)), false)
	wideBy(t, record(1, noise(1020)), true)
	wideBy(t, record(9, noise(1016))+record(1, ""), true)
	wideBy(t, record(9, noise(1015))+"x"+record(1, ""), false)
	wideBy(t, record(9, noise(1012))+record(1, "abcd"), true)
	wideBy(t, record(9, noise(1012))+record(1, "abcde")[:8], false)
	wideBy(t, strings.Repeat(record(0, ""), 255)+record(1, ""), true)
	wideBy(t, strings.Repeat(record(1, ""), 256), true)
}

// Every id: 1 alone is that of the record that says the sizes.
func TestIDs(t *testing.T) {
	list := []int{0x0100, 0x0101, 0x0102, 0x0200, 0x7075, 0x5455, 0xff01, 0x01ff, 0xffff}
	for v := range 256 {
		list = append(list, v)
	}
	for _, id := range list {
		wideBy(t, record(id, ""), id == 1)
		wideBy(t, record(id, noise(20))+"xy", id == 1)
		p := plan{name: "a", extra: record(id, string(little(3, 8))), data: "abc"}
		b := archive(set(p.bytes(), packedAt, 4, 1<<32-1), over)
		if id == 1 {
			want(t, b, len(b), api.None, entry{"a", "abc"})
		} else {
			want(t, b, len(p.header()), api.BadSize)
		}
	}
}

// Records around the one of the id 1, and a second one: the first one says the sizes, wherever it stands, and one that would go beyond the extra says none.
func TestRecordsAroundTheWideOne(t *testing.T) {
	three, four := string(little(3, 8)), string(little(4, 8))
	for i, x := range []struct {
		extra string
		ok    bool
	}{
		{record(1, three+three), true},
		{record(9, "") + record(1, three+three), true},
		{record(9, "12345") + record(8, "") + record(1, three+three) + record(9, four+four), true},
		{record(1, three+three) + record(1, four+four), true},
		{record(1, four+four) + record(1, three+three), false},
		{record(1, "") + record(1, three+three), false},
		{record(1, three) + record(1, three), false},
		{record(1, three+three) + "\x01\x00\x10", true},
		{record(1, three+three) + "\x01\x00\x10\x00" + four, true},
		{record(1, three+three)[:19], false},
		{record(1, three+three)[:19] + record(1, three+three), false}, // the first one takes a byte of the second one, and is one then
		{"\x09\x00\x30\x00" + record(1, three+three), false},
		{"x" + record(1, three+three), false},
		{record(9, record(1, three+three)), false},
		{record(2, three+three), false},
		{record(1, three+three+noise(1004)), true},
		{record(9, noise(1000)) + record(1, three+three), true},
	} {
		for _, p := range []plan{{name: "a", data: "abc"}, {name: "a", data: "abc", method: 8, packed: digits("110", "10010001", "10010010", "10010011", "0000000")}} {
			p.extra = x.extra
			says := x.extra
			if p.method == 8 {
				says = strings.ReplaceAll(says, three+three, three+string(little(uint64(len(p.packed)), 8)))
				p.extra = says
			}
			b := archive(set(set(p.bytes(), packedAt, 4, 1<<32-1), sizeAt, 4, 1<<32-1), over)
			a := hold(t, b)
			if got := a.why == api.None && slices.Equal(a.entries(), []entry{{"a", "abc"}}); got != x.ok {
				t.Errorf("%d, method %d: %d %q", i, p.method, a.why, a.entries())
			}
		}
	}
}

// What a wide record said of one entry says nothing of the next one.
func TestWideOnce(t *testing.T) {
	ahead := plan{name: "w", extra: record(1, noise(16)), data: "x"}.bytes()
	for _, p := range []plan{{name: "a", data: "abc", method: 8, flags: 8}, {name: "a", data: "abc", method: 8, flags: 8, mark: true}} {
		wantAll(t, archive(ahead, p.bytes(), ahead), entry{"w", "x"}, entry{"a", "abc"}, entry{"w", "x"})
		p.extra = record(9, "other")
		wantAll(t, archive(ahead, p.bytes()), entry{"w", "x"}, entry{"a", "abc"})
	}
	p := plan{name: "a", extra: record(1, string(little(3, 8))), data: "abc"}
	b := set(p.bytes(), packedAt, 4, 1<<32-1)
	wantAll(t, archive(b, b, b), entry{"a", "abc"}, entry{"a", "abc"}, entry{"a", "abc"})
}
