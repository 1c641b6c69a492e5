package gzip_test

import (
	"slices"
	"strings"
	"testing"

	"winkle/api"
	"winkle/gzip"
)

// P15.1: a member's first ten bytes by every byte, of the first member and of a later one, with the byte that shows it.
func TestFirstBytesByEveryByte(t *testing.T) {
	for _, ahead := range [][]byte{nil, one(), slices.Concat(one(), full().bytes())} {
		members, _ := slowly(ahead).within(99)
		for place := range 10 {
			for v := range 256 {
				b := byte(v)
				file := slices.Concat(ahead, change(one(), place, b))
				used, why := len(ahead)+place+1, api.None
				switch {
				case place == 0 && b == 0 && len(ahead) > 0:
					used, why = used+1, api.BadTail // the byte behind the 0
				case place == 0 && b != 0x1f && len(ahead) > 0:
					why = api.BadTail
				case place == 0 && b != 0x1f, place == 1 && b != 0x8b:
					why = api.BadMagic
				case place == 2 && b != 8:
					why = api.BadMethod
				case place == 3 && b >= 32:
					why = api.BadFlags
				case place == 3 && b&^1 != 0:
					hold(t, file) // its fields are other ones then
					continue
				}
				if why == api.None {
					want(t, file, len(file), api.None, append(slices.Clone(members), "one")...)
				} else {
					want(t, file, used, why, members...)
				}
			}
		}
	}
}

// P15.1: each byte of a header of all fields by every byte, its sum as it was, and right again.
func TestEveryByteOfAFullHeader(t *testing.T) {
	for _, flags := range []byte{31, 29} {
		for _, ahead := range [][]byte{nil, one()} {
			p := full()
			p.flags = flags
			header := p.header()
			for place := range header {
				for v := range 256 {
					changed := change(header, place, byte(v))
					a := hold(t, slices.Concat(ahead, changed, p.body(), p.trailer()))
					if same := byte(v) == header[place]; flags&2 != 0 && same != (a.why == api.None) {
						t.Fatalf("flags %d, byte %d as %d: %d", flags, place, v, a.why)
					}
					if flags&2 != 0 && place < len(header)-2 {
						hold(t, slices.Concat(ahead, summed(changed[:len(header)-2]), p.body(), p.trailer()))
					}
				}
			}
		}
	}
}

// P15.1: each of the flags alone, and all that may be set together: the fields in their order, and the EventOpen with the header's last byte.
func TestFlags(t *testing.T) {
	for v := range 256 {
		for _, ahead := range [][]byte{nil, one()} {
			p := full()
			p.flags = byte(v)
			file := slices.Concat(ahead, p.bytes())
			var members []string
			if len(ahead) > 0 {
				members = []string{"one"}
			}
			if v >= 32 {
				want(t, file, len(ahead)+4, api.BadFlags, members...)
				continue
			}
			a := want(t, file, len(file), api.None, append(members, "xy")...)
			name := ""
			if v&8 != 0 {
				name = "na"
			}
			if got := a.with(len(ahead) + len(p.header())); !slices.Equal(got, []api.Event{opened(name)}) {
				t.Errorf("flags %d: with the header's last byte %v", v, got)
			}
		}
	}
}

// headerEnds holds it that the EventOpen, and nothing else, is known with the header's last byte.
func headerEnds(t *testing.T, p plan, name string) {
	t.Helper()
	w := gzip.New()
	header := p.header()
	for i, b := range header {
		if !w.Put(b) {
			t.Fatalf("Put of byte %d = false", i)
		}
		if i < len(header)-1 {
			wantQuiet(t, w, api.None)
		}
	}
	wantTold(t, w, []api.Event{opened(name)}, api.None)
	want(t, p.bytes(), len(p.bytes()), api.None, p.data)
}

// Time, and the others, are anything.
func TestOthersAreAnything(t *testing.T) {
	for v := range 256 {
		b := byte(v)
		p := full()
		p.other = [6]byte{b, b, b, b, b, b}
		headerEnds(t, p, "na")
		p.other = [6]byte{0x1f, 0x8b, 8, b, 0, ^b}
		headerEnds(t, p, "na")
	}
}

// The extra field: as long as may be, and longer, which is told with the second byte of its length; what stands in it is anything.
func TestExtra(t *testing.T) {
	for _, flags := range []byte{4, 4 | 8, 4 | 16, 4 | 2, 31} {
		for _, n := range []int{0, 1, 2, 255, 256, 257, 1023, 1024, 1025, 1279, 1280, 2048, 32768, 65279, 65535} {
			for _, extra := range []string{string(zeros(n)), noise(n)} {
				p := full()
				p.flags, p.extra = flags, extra
				if n > 1024 {
					want(t, p.bytes(), 12, api.BadName)
					continue
				}
				name := ""
				if flags&8 != 0 {
					name = "na"
				}
				headerEnds(t, p, name)
			}
		}
	}
}

// The two bytes of the extra field's length by every byte: the first one is the lower one.
func TestLengthOfExtra(t *testing.T) {
	for low := range 256 {
		for high := range 256 {
			if high > 5 && high != 255 && low != 0 && low != 255 {
				continue
			}
			head := []byte{0x1f, 0x8b, 8, 4, 0, 0, 0, 0, 0, 0, byte(low), byte(high)}
			n := low + 256*high
			if n > 1024 {
				want(t, append(head, 1, 2), 12, api.BadName)
				continue
			}
			file := slices.Concat(head, zeros(n), abc()[10:])
			if w := gzip.New(); feed(w, file[:12+n]) != 12+n {
				t.Fatalf("%d %d: was not taken", low, high)
			}
			wantWhole(t, file, 3, []string{"abc"}, api.None)
			wantWhole(t, file[:12+n], 3, []string{""}, api.Cut)
			if n > 0 {
				wantWhole(t, file[:11+n], 3, nil, api.Cut)
			}
		}
	}
}

// longTexts are texts of each length that is an edge, of one byte and of many, above 127 too.
func longTexts() []string {
	var list []string
	for _, n := range []int{0, 1, 2, 255, 256, 257, 258, 1000} {
		many := make([]byte, n)
		for i := range many {
			many[i] = byte(255 - i%255)
		}
		list = append(list, strings.Repeat("n", n), strings.Repeat("\xff", n), strings.Repeat("\x80", n), string(many))
	}
	return list
}

// A name, and a comment: both, either; more than 256 bytes are told with the 257th one.
func TestNameAndComment(t *testing.T) {
	for _, flags := range []byte{8, 16, 8 | 16, 8 | 16 | 4, 8 | 16 | 2, 8 | 4 | 2, 16 | 4, 16 | 2 | 1} {
		for _, text := range longTexts() {
			for _, other := range []string{"", "o", strings.Repeat("o", 256)} {
				nameAndComment(t, flags, text, other)
				nameAndComment(t, flags, other, text)
			}
		}
	}
	nameAndComment(t, 24, strings.Repeat("a", 257), strings.Repeat("b", 257))
}

// nameAndComment holds all of a member with these two, as far as the flags ask for them.
func nameAndComment(t *testing.T, flags byte, name, comment string) {
	t.Helper()
	p := plan{flags: flags, name: name, comment: comment, extra: "e", data: "d"}
	at := 10
	if flags&4 != 0 {
		at += 3
	}
	if flags&8 != 0 && len(name) > 256 {
		want(t, p.bytes(), at+257, api.BadName)
		return
	}
	if flags&8 != 0 {
		at += len(name) + 1
	} else {
		name = ""
	}
	if flags&16 != 0 && len(comment) > 256 {
		want(t, p.bytes(), at+257, api.BadName)
		return
	}
	headerEnds(t, p, name)
}

// A 0 behind too long a name is not waited for, and one in the place of the 257th byte ends it.
func TestTooLongANameWithoutEnd(t *testing.T) {
	for _, flags := range []byte{8, 16} {
		head := plan{flags: flags}.header()[:10]
		w := gzip.New()
		feed(w, slices.Concat(head, []byte(strings.Repeat("x", 256))))
		wantQuiet(t, w, api.None)
		for v := 1; v < 256; v++ {
			w.Reset()
			feed(w, slices.Concat(head, []byte(strings.Repeat("x", 256))))
			if !w.Put(byte(v)) {
				t.Fatal("Put of the 257th byte = false")
			}
			wantOver(t, w, api.BadName)
		}
		w.Reset()
		feed(w, slices.Concat(head, []byte(strings.Repeat("x", 256))))
		w.Put(0)
		name := ""
		if flags == 8 {
			name = strings.Repeat("x", 256)
		}
		wantTold(t, w, []api.Event{opened(name)}, api.None)
	}
}

// Names of members that stand one behind the other: each has its own, or none.
func TestNamesOfSeveralMembers(t *testing.T) {
	var file []byte
	var names []string
	for _, name := range []string{"long name", "b", "-", "", "cc", "-", strings.Repeat("n", 256), "-", "z"} {
		p := plan{flags: 8, name: name, data: "d"}
		if name == "-" {
			p = plan{flags: 16, comment: "a comment is no name", data: "d"}
			name = ""
		}
		file = append(file, p.bytes()...)
		names = append(names, name)
	}
	var got []string
	for _, e := range hold(t, file).events {
		if e.Kind == api.EventOpen {
			got = append(got, e.Text)
		}
	}
	if !slices.Equal(got, names) {
		t.Errorf("names %q, not %q", got, names)
	}
}

// The header's sum: right, and either of its bytes every other one, of the first member and of a later one; it is told with the second byte, and no member begins.
func TestHeaderSum(t *testing.T) {
	for _, flags := range []byte{2, 3, 2 | 4, 2 | 8, 2 | 16, 31} {
		for _, ahead := range [][]byte{nil, one(), full().bytes()} {
			p := full()
			p.flags = flags
			header := p.header()
			members, _ := slowly(ahead).within(99)
			for place := len(header) - 2; place < len(header); place++ {
				for v := range 256 {
					file := slices.Concat(ahead, change(header, place, byte(v)), p.body(), p.trailer())
					if byte(v) == header[place] {
						want(t, file, len(file), api.None, append(slices.Clone(members), "xy")...)
					} else {
						want(t, file, len(ahead)+len(header), api.BadHead, members...)
					}
				}
			}
			swapped := slices.Clone(header)
			slices.Reverse(swapped[len(header)-2:])
			want(t, slices.Concat(ahead, swapped, p.body()), len(ahead)+len(header), api.BadHead, members...)
		}
	}
}

// A known header's sum, by hand: that of 1f 8b 08 02 and six bytes 0 is 261d (hex) in its lowest 16 bits, as zlib tells it.
func TestHeaderSumByHand(t *testing.T) {
	head := []byte{0x1f, 0x8b, 8, 2, 0, 0, 0, 0, 0, 0, 0x1d, 0x26}
	wantWhole(t, slices.Concat(head, abc()[10:]), 9, []string{"abc"}, api.None)
	wantWhole(t, slices.Concat(change(head, 11, 0x27), abc()[10:]), 9, nil, api.BadHead)
}
