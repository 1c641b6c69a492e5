package gzip_test

import (
	"compress/flate"
	"slices"
	"strings"
	"testing"

	"winkle/api"
	"winkle/gzip"
)

// What was deflated in blocks of each kind, of no bytes, of few, and of more than the window.
func TestData(t *testing.T) {
	texts := []string{"", "a", "abc", strings.Repeat("a", 1000), strings.Repeat("some words, ", 40), noise(300), noise(32767), noise(32768), noise(32769), strings.Repeat(noise(1000), 70)}
	kinds := map[int]int{}
	for _, text := range texts {
		for _, level := range []int{flate.NoCompression, flate.BestSpeed, flate.BestCompression, flate.HuffmanOnly} {
			d := deflated(text, level)
			kinds[kindOf(d)]++
			p := plan{data: text, deflated: d}
			want(t, p.bytes(), len(p.bytes()), api.None, text)
		}
		p := plan{data: text}
		want(t, p.bytes(), len(p.bytes()), api.None, text)
	}
	if len(kinds) != 3 {
		t.Errorf("not each kind of blocks was there: %v", kinds)
	}
}

// Blocks of each kind in one member, one behind the other.
func TestBlocksOfEachKind(t *testing.T) {
	fixed := "010" + "10010001" + "0000000" // an a by eight digits, and the end
	text := strings.Repeat("a", 3)
	ahead := packed(fixed, shortCodes("0"), "000 1", fixed, "000") // and a stored block's head, whose last bits are filled
	p := plan{data: "a" + text + "a" + "xy", deflated: slices.Concat(ahead, stored("")[1:], stored("xy"))}
	want(t, p.bytes(), len(p.bytes()), api.None, p.data)
}

// P15.1: which events are known with which byte of the chapter's member.
func TestEventsOfTheExample(t *testing.T) {
	known := map[int][]api.Event{10: {opened("")}, 12: {given('a')}, 13: {given('b')}, 14: {given('c')}, 23: {closed}}
	w := gzip.New()
	for i, b := range abc() {
		if !w.Put(b) {
			t.Fatalf("Put of byte %d = false", i+1)
		}
		wantTold(t, w, known[i+1], api.None)
	}
	w.End()
	wantOver(t, w, api.None)
}

// P15.1: many events with one byte, and with the byte with which what was deflated ends.
func TestManyEventsWithOneByte(t *testing.T) {
	for n := range 40 {
		p := plan{data: strings.Repeat("a", n), deflated: packed(shortCodes("1"), strings.Repeat("0", n), "1")}
		a := want(t, p.bytes(), len(p.bytes()), api.None, p.data)
		last := len(p.header()) + len(p.deflated)
		with := min(n, (len(shortCodes("1"))+n)%8) // how many bits of the last byte are ahead of the end's
		if got := len(a.with(last)); got != with {
			t.Errorf("%d: %d events with the last byte, not %d", n, got, with)
		}
		if n >= 16 && len(a.with(last-1)) != 8 {
			t.Errorf("%d: %d events with the byte ahead of the last one, not 8", n, len(a.with(last-1)))
		}
	}
	p := plan{data: strings.Repeat("a", 259), deflated: packed("110", "10010001", "11000101", "00000", "0000000")}
	a := want(t, p.bytes(), len(p.bytes()), api.None, p.data)
	if got := len(a.with(13)); got != 258 {
		t.Errorf("%d events with the byte that ends the match, not 258", got)
	}
}

// bad is what was deflated, and is stopped with its last byte.
type bad struct {
	b     []byte
	given string
	with  int // how many bytes are given with the last byte
	why   api.Reason
}

// badData tells such as are stopped by each of chapter 9's reasons.
func badData() []bad {
	return []bad{
		{[]byte{7}, "", 0, api.BadBlock},
		{[]byte{6}, "", 0, api.BadBlock},
		{[]byte{1, 0, 0, 0, 0}, "", 0, api.BadStored},
		{[]byte{1, 3, 0, 0xfc, 0xfe}, "", 0, api.BadStored},
		{[]byte{0, 1, 0, 0xfe, 0xff, 'z', 1, 1, 0, 0xff, 0xff}, "z", 0, api.BadStored},
		{[]byte{0xfd, 0, 0}, "", 0, api.BadCodes},
		{packed("110", "11000110"), "", 0, api.BadSymbol},
		{packed("110", "10010001", "11000111"), "a", 0, api.BadSymbol},
		{packed("110", "0000001", "00000"), "", 0, api.BadBack},
		{packed("110", "10010001", "0000001", "00001"), "a", 0, api.BadBack},
		{packed(shortCodes("0"), "1", "111"), "", 0, api.BadBlock},
		{packed(shortCodes("0"), "0", strings.Repeat("0", pad("0")), "001", "111"), strings.Repeat("a", 3+pad("0")), 2, api.BadBlock},
	}
}

// pad tells how many digits are wanted behind the short codes and some others up to a whole byte.
func pad(behind string) int { return (16 - (len(shortCodes("0"))+len(behind))%8) % 8 }

// Each of chapter 9's reasons, with its byte; the events that are known with that byte are told ahead of it.
func TestBadData(t *testing.T) {
	for _, x := range badData() {
		for _, ahead := range [][]byte{nil, one()} {
			members, _ := slowly(ahead).within(99)
			p := full()
			file := slices.Concat(ahead, p.header(), x.b, []byte{0, 0, 0, 0, 0, 0, 0, 0})
			used := len(ahead) + len(p.header()) + len(x.b)
			a := want(t, file, used, x.why, append(members, x.given)...)
			if n := len(a.with(used)); n != x.with {
				t.Errorf("%x: %d events with the last byte, not %d", x.b, n, x.with)
			}
		}
	}
}

// P15.2: Reason is None as long as events are to be told with the byte that stops it.
func TestReasonBehindEvents(t *testing.T) {
	header := plan{}.header()
	for _, x := range badData() {
		w := gzip.New()
		feed(w, slices.Concat(header, x.b[:len(x.b)-1]))
		if !w.Put(x.b[len(x.b)-1]) {
			t.Fatalf("%x: Put = false", x.b)
		}
		for range x.with {
			if w.Reason() != api.None || w.Put(0) {
				t.Fatalf("%x: Reason = %d ahead of an event", x.b, w.Reason())
			}
			if e, ok := w.Next(); e != given('a') || !ok {
				t.Fatalf("%x: Next = %v %t", x.b, e, ok)
			}
		}
		if w.Reason() != x.why {
			t.Fatalf("%x: Reason = %d, not %d", x.b, w.Reason(), x.why)
		}
		wantOver(t, w, x.why)
	}
}

// The sum, and the size: each of their bytes every other one, told with the last one of the four; the member does not close.
func TestSumAndSize(t *testing.T) {
	for _, ahead := range [][]byte{nil, one()} {
		for _, p := range []plan{{}, {data: "xyz"}, full()} {
			members, _ := slowly(ahead).within(99)
			members = append(members, p.data)
			first := len(ahead) + len(p.header()) + len(p.body())
			file := slices.Concat(ahead, p.bytes(), one())
			for i := range 8 {
				for v := range 256 {
					used, why := first+4, api.BadSum
					if i >= 4 {
						used, why = first+8, api.BadSize
					}
					if file[first+i] == byte(v) {
						continue
					}
					a := want(t, change(file, first+i, byte(v)), used, why, members...)
					if e := a.with(used); len(e) > 0 {
						t.Fatalf("%d: %v with the byte that stops it", i, e)
					}
				}
			}
			want(t, file, len(file), api.None, append(members, "one")...)
		}
	}
}

// Both wrong at once: BadSum, as it comes first. Each with its bytes in the other order.
func TestSumAndSizeWrong(t *testing.T) {
	p := plan{data: noise(259)}
	b := p.bytes()
	first := len(b) - 8
	want(t, change(change(b, first, b[first]^1), first+4, 0), first+4, api.BadSum, p.data)
	want(t, change(change(b, first+3, b[first+3]^128), first+7, 1), first+4, api.BadSum, p.data)
	turned := slices.Clone(b)
	slices.Reverse(turned[first : first+4])
	want(t, turned, first+4, api.BadSum, p.data)
	turned = slices.Clone(b)
	slices.Reverse(turned[first+4:])
	want(t, turned, first+8, api.BadSize, p.data)
	q := plan{data: p.data[1:]}
	want(t, slices.Concat(b[:first], q.trailer()), first+4, api.BadSum, p.data)
	want(t, slices.Concat(b[:first+4], q.trailer()[4:]), first+8, api.BadSize, p.data)
}

// The sum, and the size, are those of each member alone.
func TestSumOfEachMember(t *testing.T) {
	a, b := plan{data: "first"}, plan{data: "second"}
	both := plan{data: "firstsecond"}
	file := slices.Concat(a.bytes(), b.header(), b.body())
	want(t, slices.Concat(file, both.trailer()), len(file)+4, api.BadSum, "first", "second")
	want(t, slices.Concat(file, b.trailer()[:4], both.trailer()[4:]), len(file)+8, api.BadSize, "first", "second")
	want(t, slices.Concat(file, b.trailer()), len(file)+8, api.None, "first", "second")
}

// What a member gives is not reached back to out of the next one.
func TestNoReachIntoTheMemberAhead(t *testing.T) {
	match := packed("110", "0000001", "00000", "0000000")
	file := slices.Concat(one(), plan{data: "eee", deflated: match}.bytes())
	want(t, file, len(one())+10+2, api.BadBack, "one", "")
}

// One, two and many members, empty ones among them, of each kind of blocks.
func TestManyMembers(t *testing.T) {
	var file []byte
	var members []string
	for i := range 60 {
		text := noise(i * 7 % 50)
		if i%3 == 0 {
			text = ""
		}
		p := plan{flags: byte(i % 32), name: "n", data: text, deflated: deflated(text, []int{0, 1, 9, flate.HuffmanOnly}[i%4])}
		file = append(file, p.bytes()...)
		members = append(members, text)
		if i < 4 || i%20 == 19 {
			want(t, file, len(file), api.None, members...)
			want(t, slices.Concat(file, zeros(i)), len(file)+i, api.None, members...)
		}
	}
}

// Behind members: no byte 0, one, many; another byte directly behind one, and behind bytes 0.
func TestBehindMembers(t *testing.T) {
	for _, file := range [][]byte{one(), slices.Concat(one(), one()), plan{}.bytes()} {
		members, _ := slowly(file).within(99)
		for _, n := range []int{0, 1, 2, 3, 511, 5000} {
			tail := slices.Concat(file, zeros(n))
			want(t, tail, len(tail), api.None, members...)
			if n > 3 {
				continue
			}
			for v := 1; v < 256; v++ {
				b := slices.Concat(tail, []byte{byte(v), 0x8b, 8})
				switch {
				case v != 0x1f || n > 0:
					want(t, b, len(tail)+1, api.BadTail, members...)
				default:
					want(t, b, len(b), api.Cut, members...)
				}
			}
		}
	}
	long := slices.Concat(one(), zeros(5000), []byte{1})
	want(t, long, len(long), api.BadTail, "one")
}

// Bytes 0 ahead of all are no file.
func TestZerosAhead(t *testing.T) {
	want(t, zeros(1), 1, api.BadMagic)
	want(t, slices.Concat(zeros(1), one()), 1, api.BadMagic)
}

// P15.4: two files one behind the other, without bytes 0 between and with them.
func TestTwoFiles(t *testing.T) {
	files := [][]byte{one(), abc(), slices.Concat(full().bytes(), plan{}.bytes()), slices.Concat(one(), abc(), one())}
	for _, a := range files {
		for _, b := range files {
			first, _ := gzip.Whole(a, 99)
			second, _ := gzip.Whole(b, 99)
			members := texts(slices.Concat(first, second))
			both := slices.Concat(a, b)
			want(t, both, len(both), api.None, members...)
			want(t, slices.Concat(both, zeros(2)), len(both)+2, api.None, members...)
			for _, n := range []int{1, 2, 512} {
				want(t, slices.Concat(a, zeros(n), b), len(a)+n+1, api.BadTail, texts(first)...)
			}
		}
	}
}

// The bytes ended at every place of a file: Cut, but directly behind a member and behind bytes 0.
func TestEndedAtEveryPlace(t *testing.T) {
	p := full()
	p.deflated, p.data = deflated("some words, some words", 9), "some words, some words"
	pieces := [][]byte{abc(), p.bytes(), plan{}.bytes(), one()}
	file := slices.Concat(pieces...)
	whole := map[int]int{}
	at := 0
	for _, b := range pieces {
		at += len(b)
		whole[at] = 1
	}
	file = append(file, zeros(3)...)
	for n := range len(file) + 1 {
		a := hold(t, file[:n])
		why := api.Cut
		if whole[n] == 1 || n > at {
			why = api.None
		}
		if a.why != why || a.used != n {
			t.Errorf("%d bytes: %d, not %d", n, a.why, why)
		}
	}
}
