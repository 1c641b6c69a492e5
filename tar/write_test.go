package tar_test

import (
	"fmt"
	"slices"
	"strings"

	"winkle/number"
)

// plan is a header, and its data, that are to be written.
type plan struct {
	name   string
	kind   byte
	data   string
	size   string // the size's field as it stands; empty: how long data is
	magic  string // from the byte 257 on
	prefix string
	link   string
}

// block writes a header, its sum right.
func (p plan) block() []byte {
	b := make([]byte, 512)
	copy(b[:100], p.name)
	copy(b[100:], "0000644\x00")
	size := p.size
	if size == "" {
		size = fmt.Sprintf("%011o\x00", len(p.data))
	}
	copy(b[124:136], size)
	b[156] = p.kind
	copy(b[157:257], p.link)
	copy(b[257:265], p.magic)
	copy(b[345:500], p.prefix)
	return summed(b)
}

// bytes writes a header, its data, and noughts up to the next whole block.
func (p plan) bytes() []byte { return slices.Concat(p.block(), padded(p.data)) }

// summed tells a block with its sum in it.
func summed(b []byte) []byte {
	b = slices.Clone(b)
	copy(b[148:156], "        ")
	sum := 0
	for _, v := range b {
		sum += int(v)
	}
	copy(b[148:156], fmt.Sprintf("%06o\x00 ", sum))
	return b
}

// signedSummed tells a block with the sum in it that takes bytes above 127 as below 0.
func signedSummed(b []byte) []byte {
	b = slices.Clone(b)
	_, sum, _ := number.Sums(b)
	copy(b[148:156], fmt.Sprintf("%06o\x00 ", sum))
	return b
}

// padded tells data with noughts up to the next whole block.
func padded(data string) []byte { return slices.Concat([]byte(data), zeros((512-len(data)%512)%512)) }

// file writes a file.
func file(name, data string) []byte { return plan{name: name, kind: '0', data: data}.bytes() }

// long writes a header L.
func long(name string) []byte { return plan{name: "././@LongLink", kind: 'L', data: name}.bytes() }

// extra writes a header x.
func extra(records ...string) []byte {
	return plan{name: "pax", kind: 'x', data: strings.Join(records, "")}.bytes()
}

// record writes a record; its length counts its own digits.
func record(key, value string) string {
	rest := " " + key + "=" + value + "\n"
	n := len(rest)
	for n != len(rest)+len(fmt.Sprint(n)) {
		n = len(rest) + len(fmt.Sprint(n))
	}
	return fmt.Sprint(n) + rest
}

// zeros makes n bytes 0.
func zeros(n int) []byte { return make([]byte, n) }

// archive writes pieces one behind the other.
func archive(pieces ...[]byte) []byte { return slices.Concat(pieces...) }

// change tells bytes of which one is another one.
func change(b []byte, place int, to byte) []byte {
	b = slices.Clone(b)
	b[place] = to
	return b
}

// noise makes n bytes without an order to be seen, the same ones each time.
func noise(n int) string {
	b := make([]byte, n)
	v := uint32(1)
	for i := range b {
		v = v*1664525 + 1013904223
		b[i] = byte(v >> 24)
	}
	return string(b)
}

// all writes an archive in which everything stands that an archive may have.
func all() []byte {
	return archive(
		file("first", "abc"),
		plan{name: "dir/", kind: '5'}.bytes(),
		plan{kind: 'g', data: record("path", "global")}.bytes(),
		long("a long name\x00"),
		plan{kind: 'K', data: "a long link\x00"}.bytes(),
		plan{name: "short", prefix: "pre", magic: "ustar\x0000"}.bytes(),
		extra(record("path", "by records"), record("size", "515"), record("mtime", "1.5")),
		plan{name: "third", kind: '7', size: "7\x00"}.block(), padded(noise(515)),
		plan{name: "last", prefix: "pre", magic: "ustar  \x00", kind: '0', data: noise(512)}.bytes(),
		zeros(512), []byte("anything"),
	)
}
