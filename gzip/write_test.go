package gzip_test

import (
	"bytes"
	"compress/flate"
	"encoding/binary"
	"hash/crc32"
	"slices"
	"strings"
)

// abc is the chapter's m.
func abc() []byte {
	return []byte{0x1f, 0x8b, 8, 0, 0, 0, 0, 0, 0, 3, 0x4b, 0x4c, 0x4a, 6, 0, 0xc2, 0x41, 0x24, 0x35, 3, 0, 0, 0}
}

// plan is a member that is to be written.
type plan struct {
	flags    byte // which fields there are, too
	other    [6]byte
	extra    string
	name     string
	comment  string
	data     string
	deflated []byte // what data was deflated to; nil: stored
}

// header writes a member's header, its sum right.
func (p plan) header() []byte {
	b := slices.Concat([]byte{0x1f, 0x8b, 8, p.flags}, p.other[:])
	if p.flags&4 != 0 {
		b = binary.LittleEndian.AppendUint16(b, uint16(len(p.extra)))
		b = append(b, p.extra...)
	}
	if p.flags&8 != 0 {
		b = append(b, p.name+"\x00"...)
	}
	if p.flags&16 != 0 {
		b = append(b, p.comment+"\x00"...)
	}
	if p.flags&2 != 0 {
		b = summed(b)
	}
	return b
}

// summed tells a header with its sum behind it.
func summed(b []byte) []byte {
	return binary.LittleEndian.AppendUint16(slices.Clone(b), uint16(crc32.ChecksumIEEE(b)))
}

// trailer writes a member's sum and size.
func (p plan) trailer() []byte {
	b := binary.LittleEndian.AppendUint32(nil, crc32.ChecksumIEEE([]byte(p.data)))
	return binary.LittleEndian.AppendUint32(b, uint32(len(p.data)))
}

// body writes what was deflated.
func (p plan) body() []byte {
	if p.deflated != nil {
		return p.deflated
	}
	return stored(p.data)
}

// bytes writes a member.
func (p plan) bytes() []byte { return slices.Concat(p.header(), p.body(), p.trailer()) }

// full is a member that has all fields.
func full() plan {
	return plan{flags: 31, other: [6]byte{1, 2, 3, 4, 5, 6}, extra: "ext", name: "na", comment: "com", data: "xy"}
}

// one is a short member; there is less to be done with it than with abc.
func one() []byte { return plan{data: "one"}.bytes() }

// stored writes blocks of bytes as they stand.
func stored(data string) []byte {
	var b []byte
	for {
		n := min(len(data), 65535)
		last := byte(0)
		if n == len(data) {
			last = 1
		}
		b = append(b, last)
		b = binary.LittleEndian.AppendUint16(b, uint16(n))
		b = binary.LittleEndian.AppendUint16(b, uint16(65535-n))
		b = append(b, data[:n]...)
		data = data[n:]
		if last == 1 {
			return b
		}
	}
}

// deflated writes bytes by the library, at a level.
func deflated(data string, level int) []byte {
	var b bytes.Buffer
	w, err := flate.NewWriter(&b, level)
	if err != nil {
		panic(err)
	}
	w.Write([]byte(data))
	w.Close()
	return b.Bytes()
}

// kindOf tells of which kind the first block is.
func kindOf(b []byte) int { return int(b[0] >> 1 & 3) }

// packed makes bytes of digits 0 and 1, the lowest bit first; blanks say nothing, and the last byte is filled with 0.
func packed(digits ...string) []byte {
	row := strings.ReplaceAll(strings.Join(digits, ""), " ", "")
	b := make([]byte, (len(row)+7)/8)
	for i, digit := range row {
		b[i/8] |= byte(digit-'0') << (i % 8)
	}
	return b
}

// number tells the digits of a number of n bits.
func number(v, n int) string {
	digits := ""
	for i := range n {
		digits += string(rune('0' + v>>i&1))
	}
	return digits
}

// shortCodes begins a dynamic block in which the digit 0 is an `a`, and 1 the block's end; it has a whole number of bytes and five bits.
func shortCodes(last string) string {
	digits := last + "01" + number(0, 5) + number(0, 5) + number(14, 4)
	for _, symbol := range []int{16, 17, 18, 0, 8, 7, 9, 6, 10, 5, 11, 4, 12, 3, 13, 2, 14, 1} {
		switch symbol {
		case 18:
			digits += number(1, 3)
		case 0, 1:
			digits += number(2, 3)
		default:
			digits += number(0, 3)
		}
	}
	// 18 is the digit 0, the length 0 is 10, the length 1 is 11.
	digits += "0" + number(97-11, 7) + "11" + "0" + number(138-11, 7) + "0" + number(20-11, 7) + "11" + "10"
	return digits
}

// noise makes n bytes without an order to be seen, the same ones each time.
func noise(n int) string {
	b := make([]byte, n)
	v := uint32(1)
	for i := range b {
		v = v*1664525 + 1013904223
		b[i] = byte(v >> 24)
	}
	return string(b)
}

// change tells bytes of which one is another one.
func change(b []byte, place int, to byte) []byte {
	b = slices.Clone(b)
	b[place] = to
	return b
}

// zeros makes n bytes 0.
func zeros(n int) []byte { return make([]byte, n) }
