package zip_test

import (
	"bytes"
	"compress/flate"
	"encoding/binary"
	"hash/crc32"
	"slices"
	"strings"
)

// over is four bytes with which the entries are over.
var over = []byte("PK\x05\x06")

// plan is an entry that is to be written.
type plan struct {
	flags  int
	method int
	other  byte // the bytes that may be anything are of it
	name   string
	extra  string
	data   string
	packed []byte // what data was deflated to; nil: as it stands, or in stored blocks
	mark   bool   // four bytes stand ahead of the sum behind the data
	wide   bool   // the numbers behind the data have eight bytes
}

// little writes a number of so many bytes, the lowest one first.
func little(v uint64, n int) []byte { return binary.LittleEndian.AppendUint64(nil, v)[:n] }

// behind tells whether the sum and the sizes stand behind the data.
func (p plan) behind() bool { return p.flags&8 != 0 }

// body writes what stands in the archive for the data.
func (p plan) body() []byte {
	switch {
	case p.packed != nil:
		return p.packed
	case p.method == 8:
		return blocks(p.data)
	}
	return []byte(p.data)
}

// header writes an entry's header; where the sizes stand behind the data, they are 0 in it.
func (p plan) header() []byte {
	sum, packed, size := uint64(crc32.ChecksumIEEE([]byte(p.data))), uint64(len(p.body())), uint64(len(p.data))
	if p.behind() {
		sum, packed, size = 0, 0, 0
	}
	return slices.Concat([]byte{0x50, 0x4b, 3, 4, p.other, p.other}, little(uint64(p.flags), 2), little(uint64(p.method), 2),
		bytes.Repeat([]byte{p.other}, 4), little(sum, 4), little(packed, 4), little(size, 4),
		little(uint64(len(p.name)), 2), little(uint64(len(p.extra)), 2), []byte(p.name), []byte(p.extra))
}

// trailer writes what stands behind the data.
func (p plan) trailer() []byte {
	if !p.behind() {
		return nil
	}
	var b []byte
	if p.mark {
		b = []byte("PK\x07\x08")
	}
	n := 4
	if p.wide {
		n = 8
	}
	return slices.Concat(b, little(uint64(crc32.ChecksumIEEE([]byte(p.data))), 4), little(uint64(len(p.body())), n), little(uint64(len(p.data)), n))
}

// bytes writes an entry.
func (p plan) bytes() []byte { return archive(p.header(), p.body(), p.trailer()) }

// archive writes pieces one behind the other.
func archive(pieces ...[]byte) []byte { return slices.Concat(pieces...) }

// file writes a stored entry.
func file(name, data string) []byte { return plan{name: name, data: data}.bytes() }

// record writes a record of an extra.
func record(id int, says string) string {
	return string(little(uint64(id), 2)) + string(little(uint64(len(says)), 2)) + says
}

// blocks deflates bytes to blocks in which they stand as they are.
func blocks(data string) []byte {
	var b []byte
	for {
		n := min(len(data), 65535)
		last := byte(0)
		if n == len(data) {
			last = 1
		}
		b = slices.Concat(b, []byte{last}, little(uint64(n), 2), little(uint64(65535-n), 2), []byte(data[:n]))
		data = data[n:]
		if last == 1 {
			return b
		}
	}
}

// squeezed deflates bytes by the library, at a level.
func squeezed(data string, level int) []byte {
	var b bytes.Buffer
	w, err := flate.NewWriter(&b, level)
	if err != nil {
		panic(err)
	}
	w.Write([]byte(data))
	w.Close()
	return b.Bytes()
}

// digits makes bytes of digits 0 and 1, the lowest bit first; the last byte is filled with 0.
func digits(list ...string) []byte {
	row := strings.Join(list, "")
	b := make([]byte, (len(row)+7)/8)
	for i, digit := range row {
		b[i/8] |= byte(digit-'0') << (i % 8)
	}
	return b
}

// number tells the digits of a number of n bits.
func number(v, n int) string {
	list := ""
	for i := range n {
		list += string(rune('0' + v>>i&1))
	}
	return list
}

// shortCodes begins a dynamic block in which the digit 0 is an `a`, and 1 the block's end; it has a whole number of bytes and five bits.
func shortCodes(last string) string {
	list := last + "01" + number(0, 5) + number(0, 5) + number(14, 4)
	for _, symbol := range []int{16, 17, 18, 0, 8, 7, 9, 6, 10, 5, 11, 4, 12, 3, 13, 2, 14, 1} {
		switch symbol {
		case 18:
			list += number(1, 3)
		case 0, 1:
			list += number(2, 3)
		default:
			list += number(0, 3)
		}
	}
	// 18 is the digit 0, the length 0 is 10, the length 1 is 11.
	return list + "0" + number(97-11, 7) + "11" + "0" + number(138-11, 7) + "0" + number(20-11, 7) + "11" + "10"
}

// manyAs deflates n times an `a`, eight of them to a byte.
func manyAs(n int) []byte { return digits(shortCodes("1"), strings.Repeat("0", n), "1") }

// noise makes n bytes without an order to be seen, the same ones each time.
func noise(n int) string {
	b := make([]byte, n)
	v := uint32(1)
	for i := range b {
		v = v*1664525 + 1013904223
		b[i] = byte(v >> 24)
	}
	return string(b)
}

// ofSum makes four bytes of that sum.
func ofSum(sum uint32) string {
	register := ^sum
	for range 32 {
		if register>>31 == 1 {
			register = (register^0xedb88320)<<1 | 1
		} else {
			register <<= 1
		}
	}
	return string(little(uint64(^register), 4))
}

// change tells bytes of which one is another one.
func change(b []byte, place int, to byte) []byte {
	b = slices.Clone(b)
	b[place] = to
	return b
}

// Places of an entry's header, and how many bytes each has.
const (
	flagsAt    = 6
	methodAt   = 8
	sumAt      = 14
	packedAt   = 18
	sizeAt     = 22
	nameLenAt  = 26
	extraLenAt = 28
	headLen    = 30
)

// set tells bytes in which a number of n bytes is another one.
func set(b []byte, place, n int, v uint64) []byte {
	b = slices.Clone(b)
	copy(b[place:place+n], little(v, n))
	return b
}

// abc is a stored entry, and in what ways it may be written otherwise.
func abc() plan { return plan{name: "a", data: "abc"} }

// ways are one entry in each of the ways in which it is told.
func ways(name, data string) []plan {
	var list []plan
	for _, level := range []int{flate.NoCompression, flate.BestCompression, flate.HuffmanOnly} {
		packed := squeezed(data, level)
		list = append(list, plan{method: 8, name: name, data: data, packed: packed},
			plan{method: 8, flags: 8, name: name, data: data, packed: packed},
			plan{method: 8, flags: 8, name: name, data: data, packed: packed, mark: true},
			plan{method: 8, flags: 8, name: name, data: data, packed: packed, extra: record(1, ""), wide: true},
			plan{method: 8, flags: 8, name: name, data: data, packed: packed, extra: record(1, noise(16)), wide: true, mark: true})
	}
	return append(list, plan{name: name, data: data}, plan{name: name, data: data, extra: record(1, ""), other: 0xff})
}

// all writes an archive in which everything stands that an archive may have.
func all() []byte {
	text := "some words, some words"
	return archive(
		file("first", "abc"),
		plan{name: "dir/"}.bytes(),
		plan{name: "locked", flags: 1, data: "PK\x03\x04"}.bytes(),
		plan{name: "other", method: 12, data: "PK\x05\x06", extra: record(0x5455, "times")}.bytes(),
		plan{name: "ahead", method: 8, data: text, packed: squeezed(text, 9), extra: record(1, noise(16)) + "xyz"}.bytes(),
		plan{name: "behind", method: 8, flags: 8, data: strings.Repeat("a", 40), packed: manyAs(40)}.bytes(),
		plan{name: "marked", method: 8, flags: 8, data: text, packed: squeezed(text, 9), mark: true}.bytes(),
		plan{name: "wide", method: 8, flags: 8, data: text, wide: true, extra: record(9, "x") + record(1, "")}.bytes(),
		plan{name: "last", method: 8, flags: 0x806, data: "", extra: record(7, "")}.bytes(),
		over, []byte("anything"),
	)
}

// allEntries are those of all.
func allEntries() []entry {
	text := "some words, some words"
	return []entry{{"first", "abc"}, {"dir/", ""}, {"ahead", text}, {"behind", strings.Repeat("a", 40)}, {"marked", text}, {"wide", text}, {"last", ""}}
}
