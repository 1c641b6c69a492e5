package zip_test

import (
	"compress/flate"
	"hash/crc32"
	"slices"
	"strings"
	"testing"

	"winkle/api"
	"winkle/zip"
)

// texts are data of each length that matters.
func texts() []string {
	return []string{"", "x", "xy", "abc", strings.Repeat("a", 300), strings.Repeat("some words, ", 40), noise(255), noise(256), noise(3000)}
}

// Stored entries: each byte is given as it comes, the EventClose with the last one; of no bytes with the header's.
func TestStored(t *testing.T) {
	for _, data := range append(texts(), noise(70000)) {
		p := plan{name: "n", data: data}
		a := wantAll(t, archive(p.bytes(), p.bytes()), entry{"n", data}, entry{"n", data})
		h := len(p.header())
		if data == "" {
			if got := a.with(h); !slices.Equal(got, []api.Event{opened("n"), closed}) {
				t.Errorf("with the header's last byte %v", got)
			}
			continue
		}
		for i := range len(data) {
			wanted := []api.Event{given(data[i])}
			if i == len(data)-1 {
				wanted = append(wanted, closed)
			}
			if got := a.with(h + i + 1); !slices.Equal(got, wanted) {
				t.Fatalf("with byte %d %v", i, got)
			}
		}
	}
}

// Of a stored entry C must be U: BadSize with the header's last byte, without an event, and ahead of BadSum.
func TestStoredSizesUnlike(t *testing.T) {
	for _, data := range texts() {
		n := uint64(len(data))
		for _, sizes := range [][2]uint64{{n, n + 1}, {n + 1, n}, {n, n + 256}, {n + 65536, n}, {n, n + 1<<24}, {n, 1<<32 - 1}, {1<<32 - 1, n}, {n, 1<<32 - 2}, {max(n, 1) - 1, max(n, 1)}, {max(n, 1), max(n, 1) - 1}} {
			p := plan{name: "n", data: data}
			b := archive(set(set(p.bytes(), packedAt, 4, sizes[0]), sizeAt, 4, sizes[1]), over)
			for _, sum := range []uint64{0, 1, uint64(crc32.ChecksumIEEE([]byte(data)))} {
				a := want(t, set(b, sumAt, 4, sum), headLen+1, api.BadSize)
				if got := a.with(headLen + 1); len(got) > 0 {
					t.Fatalf("with the byte that stops it %v", got)
				}
			}
		}
	}
}

// Of a stored entry C and U both one less, and both more: the sum is that of the bytes that are given.
func TestStoredSizesLikeAndWrong(t *testing.T) {
	for _, data := range []string{"x", "xy", "abc", noise(300)} {
		p := plan{name: "n", data: data}
		n := len(data)
		less := set(set(p.bytes(), packedAt, 4, uint64(n-1)), sizeAt, 4, uint64(n-1))
		want(t, archive(less, over), headLen+1+n-1, api.BadSum, entry{"n", data[:n-1]})
		more := set(set(p.bytes(), packedAt, 4, uint64(n+1)), sizeAt, 4, uint64(n+1))
		want(t, archive(more, over), headLen+1+n+1, api.BadSum, entry{"n", data + "P"})
		want(t, more, len(more), api.Cut, entry{"n", data})
	}
}

// The sum of a stored entry: each of its bytes by every byte. BadSum comes with the last byte of the data, behind its event; of no bytes with the header's, behind the EventOpen; there is no EventClose.
func TestStoredSum(t *testing.T) {
	for _, data := range []string{"", "x", "abc", noise(40)} {
		p := plan{name: "n", data: data}
		b := archive(p.bytes(), file("b", "b"), over)
		last := headLen + 1 + len(data)
		for i := range 4 {
			for v := range 256 {
				if b[sumAt+i] == byte(v) {
					continue
				}
				a := want(t, change(b, sumAt+i, byte(v)), last, api.BadSum, entry{"n", data})
				wanted := opened("n")
				if data != "" {
					wanted = given(data[len(data)-1])
				}
				if got := a.with(last); !slices.Equal(got, []api.Event{wanted}) {
					t.Fatalf("with the byte that stops it %v", got)
				}
			}
		}
	}
}

// Each byte of stored data turned: BadSum.
func TestStoredByteTurned(t *testing.T) {
	p := plan{name: "n", data: noise(50)}
	b := archive(p.bytes(), over)
	for i := range 50 {
		for _, with := range []byte{1, 0x80, 0xff} {
			place := headLen + 1 + i
			data := change([]byte(p.data), i, p.data[i]^with)
			want(t, change(b, place, b[place]^with), len(b)-4, api.BadSum, entry{"n", string(data)})
		}
	}
}

// Deflated entries, in blocks of each kind, of each of the ways in which the sizes may be told, and of stored ones between.
func TestDeflated(t *testing.T) {
	kinds := map[byte]bool{}
	for _, data := range append(texts(), noise(33000)) {
		var b []byte
		var entries []entry
		for _, p := range ways("n", data) {
			wantAll(t, p.bytes(), entry{"n", data})
			if len(p.packed) > 0 {
				kinds[p.packed[0]>>1&3] = true
			}
			b = archive(b, p.bytes(), file("s", "s"))
			entries = append(entries, entry{"n", data}, entry{"s", "s"})
		}
		wantAll(t, b, entries...)
	}
	if len(kinds) != 3 {
		t.Errorf("not each kind of blocks was there: %v", kinds)
	}
}

// Which events are known with which byte of a deflated entry, by hand: its sizes ahead, and behind.
func TestEventsOfDeflated(t *testing.T) {
	packed := []byte{0x4b, 0x4c, 0x4a, 6, 0} // chapter 9's second example
	for _, x := range []struct {
		p    plan
		last int
	}{{plan{}, 36}, {plan{flags: 8}, 48}, {plan{flags: 8, mark: true}, 52}, {plan{flags: 8, extra: record(1, ""), wide: true}, 60}, {plan{flags: 8, extra: record(1, ""), wide: true, mark: true}, 64}} {
		p := x.p
		p.method, p.name, p.data, p.packed = 8, "n", "abc", packed
		open := 31 + len(p.extra)
		known := map[int][]api.Event{open: {opened("n")}, open + 2: {given('a')}, open + 3: {given('b')}, open + 4: {given('c')}, x.last: {closed}}
		w := zip.New()
		for i, v := range archive(p.bytes(), over) {
			if !w.Put(v) {
				t.Fatalf("Put of byte %d = false", i+1)
			}
			wantTold(t, w, known[i+1], api.None)
		}
		w.End()
		wantOver(t, w, api.None)
	}
}

// Many events with one byte, and with the last one; the EventClose behind them all.
func TestManyEventsWithOneByte(t *testing.T) {
	for n := range 40 {
		p := plan{method: 8, name: "n", data: strings.Repeat("a", n), packed: manyAs(n)}
		a := wantAll(t, p.bytes(), entry{"n", p.data})
		last := len(p.bytes())
		with := min(n, (len(shortCodes("1"))+n)%8) // how many bits of the last byte are ahead of the end's
		got := a.with(last)
		if len(got) != with+1 || got[with] != closed {
			t.Errorf("%d: %v with the last byte", n, got)
		}
		if n >= 16 && len(a.with(last-1)) != 8 {
			t.Errorf("%d: %d events with the byte ahead of the last one, not 8", n, len(a.with(last-1)))
		}
		p.flags = 8
		a = wantAll(t, p.bytes(), entry{"n", p.data})
		if got := a.with(len(p.header()) + len(p.packed)); len(got) != with {
			t.Errorf("%d: %v with the byte that ends the data", n, got)
		}
		if got := a.with(len(p.bytes())); !slices.Equal(got, []api.Event{closed}) {
			t.Errorf("%d: %v with the last byte", n, got)
		}
	}
	p := plan{method: 8, name: "n", data: strings.Repeat("a", 259), packed: digits("110", "10010001", "11000101", "00000", "0000000")}
	a := wantAll(t, p.bytes(), entry{"n", p.data})
	if got := len(a.with(headLen + 1 + 3)); got != 258 {
		t.Errorf("%d events with the byte that ends the match, not 258", got)
	}
}

// Sizes ahead: C one less than there are, and each other number below them, 0, too. BadSize comes with the C-th byte, behind what it gives; of no bytes with the header's, behind the EventOpen.
func TestPackedTooSmall(t *testing.T) {
	for _, x := range []struct {
		data   string
		packed []byte
	}{{"abc", []byte{0x4b, 0x4c, 0x4a, 6, 0}}, {strings.Repeat("a", 60), manyAs(60)}, {"", []byte{3, 0}}, {noise(9), blocks(noise(9))}, {noise(300), squeezed(noise(300), 9)}, {"", blocks("")}} {
		p := plan{method: 8, name: "n", data: x.data, packed: x.packed}
		b := archive(p.bytes(), over)
		whole := slowly(b)
		for c := range len(x.packed) {
			for _, u := range []int{len(x.data), 0, 1 << 20} {
				a := hold(t, set(set(b, packedAt, 4, uint64(c)), sizeAt, 4, uint64(u)))
				if a.used != headLen+1+c || a.why != api.BadSize {
					t.Fatalf("C %d: %d %d", c, a.used, a.why)
				}
				var events []api.Event
				for n := range a.used + 1 {
					events = append(events, whole.with(n)...)
				}
				if !slices.Equal(a.events, events) {
					t.Fatalf("C %d: %v, not %v", c, a.events, events)
				}
			}
		}
	}
}

// Sizes ahead: C one more than there are, and much more. BadSize comes with the byte with which the end comes, ahead of what the sum says.
func TestPackedTooGreat(t *testing.T) {
	for _, data := range []string{"", "abc", strings.Repeat("a", 60), noise(300)} {
		for _, packed := range [][]byte{blocks(data), squeezed(data, 9), squeezed(data, flate.HuffmanOnly)} {
			p := plan{method: 8, name: "n", data: data, packed: packed}
			b := archive(p.bytes(), file("b", "b"), over)
			for _, c := range []int{len(packed) + 1, len(packed) + 2, len(packed) + 256, len(packed) + 65536, len(packed) + 1<<24, 1<<32 - 1} {
				wrong := set(b, packedAt, 4, uint64(c))
				a := want(t, wrong, headLen+1+len(packed), api.BadSize, entry{"n", data})
				if got := a.with(a.used); len(got) > 0 && got[len(got)-1] == closed {
					t.Fatalf("with the byte that stops it %v", got)
				}
				want(t, set(wrong, sumAt, 4, 1), headLen+1+len(packed), api.BadSize, entry{"n", data})
				want(t, set(wrong, sizeAt, 4, 1<<31), headLen+1+len(packed), api.BadSize, entry{"n", data})
			}
		}
	}
}

// Sizes ahead: U one less, one more, and other ones: BadSize with the end, ahead of BadSum. The sum another one: BadSum with the end.
func TestSizeAndSumAhead(t *testing.T) {
	for _, data := range []string{"", "x", "abc", strings.Repeat("a", 60), noise(300)} {
		for _, packed := range [][]byte{blocks(data), squeezed(data, 9)} {
			p := plan{method: 8, name: "n", data: data, packed: packed}
			b := archive(p.bytes(), file("b", "b"), over)
			end := headLen + 1 + len(packed)
			for _, u := range []int{len(data) - 1, len(data) + 1, len(data) + 256, len(data) + 65536, len(data) + 1<<24, 0, 1<<32 - 1} {
				if u < 0 || u == len(data) {
					continue
				}
				a := want(t, set(b, sizeAt, 4, uint64(u)), end, api.BadSize, entry{"n", data})
				if got := a.with(end); slices.Contains(got, closed) {
					t.Fatalf("with the byte that stops it %v", got)
				}
				want(t, set(set(b, sizeAt, 4, uint64(u)), sumAt, 4, 7), end, api.BadSize, entry{"n", data})
			}
			for i := range 4 {
				for v := range 256 {
					if v%16 == int(b[sumAt+i]%16) && b[sumAt+i] != byte(v) {
						want(t, change(b, sumAt+i, byte(v)), end, api.BadSum, entry{"n", data})
					}
				}
			}
		}
	}
}

// bad is what was deflated, and is stopped with its last byte.
type bad struct {
	b     []byte
	given string
	with  int // how many bytes are given with the last byte
	why   api.Reason
}

// badData tells such as are stopped by each of chapter 9's reasons.
func badData() []bad {
	return []bad{
		{[]byte{7}, "", 0, api.BadBlock},
		{[]byte{6}, "", 0, api.BadBlock},
		{[]byte{1, 0, 0, 0, 0}, "", 0, api.BadStored},
		{[]byte{1, 3, 0, 0xfc, 0xfe}, "", 0, api.BadStored},
		{[]byte{0, 1, 0, 0xfe, 0xff, 'z', 1, 1, 0, 0xff, 0xff}, "z", 0, api.BadStored},
		{[]byte{0xfd, 0, 0}, "", 0, api.BadCodes},
		{digits("110", "11000110"), "", 0, api.BadSymbol},
		{digits("110", "10010001", "11000111"), "a", 0, api.BadSymbol},
		{digits("110", "0000001", "00000"), "", 0, api.BadBack},
		{digits("110", "10010001", "0000001", "00001"), "a", 0, api.BadBack},
		{digits(shortCodes("0"), "1", "111"), "", 0, api.BadBlock},
		{digits(shortCodes("0"), "0", strings.Repeat("0", pad("0")), "001", "111"), strings.Repeat("a", 3+pad("0")), 2, api.BadBlock},
	}
}

// pad tells how many digits are wanted behind the short codes and some others up to a whole byte.
func pad(behind string) int { return (16 - (len(shortCodes("0"))+len(behind))%8) % 8 }

// Each of chapter 9's reasons, with its byte, behind the events that are known with that: the sizes behind; and ahead, with the C-th byte, with one ahead of that, and with one behind it.
func TestBadData(t *testing.T) {
	for _, x := range badData() {
		for _, ahead := range [][]byte{nil, all()[:len(all())-12]} {
			before := slowly(ahead).entries()
			list := append(slices.Clone(before), entry{"n", x.given})
			for _, p := range []plan{{flags: 8}, {flags: 8, wide: true, extra: record(1, "")}, {}} {
				p.method, p.name, p.data, p.packed = 8, "n", x.given, x.b
				used := len(ahead) + len(p.header()) + len(x.b)
				b := archive(ahead, p.bytes(), over)
				a := want(t, b, used, x.why, list...)
				if got := a.with(used); len(got) != x.with {
					t.Errorf("%x: %v with the last byte", x.b, got)
				}
				if p.flags == 8 {
					continue
				}
				c := len(ahead) + packedAt
				want(t, set(b, c, 4, uint64(len(x.b)+1)), used, x.why, list...)
				want(t, set(b, c, 4, 1<<32-1), used, x.why, list...)
				want(t, set(b, len(ahead)+sizeAt, 4, 1<<32-1), used, x.why, list...)
				want(t, set(b, len(ahead)+sumAt, 4, 0), used, x.why, list...)
				list[len(before)].data = x.given[:len(x.given)-x.with]
				if a := hold(t, set(b, c, 4, uint64(len(x.b)-1))); a.used != used-1 || a.why != api.BadSize || !slices.Equal(a.entries(), list) {
					t.Errorf("%x: %d %d %q", x.b, a.used, a.why, a.entries())
				}
			}
		}
	}
}

// P17.2: Reason is None as long as events are to be told with the byte that stops it.
func TestReasonBehindEvents(t *testing.T) {
	many := plan{method: 8, name: "n", data: strings.Repeat("a", 60), packed: manyAs(60)}
	empty := plan{name: "n"}
	type stop struct {
		b      []byte
		events []api.Event
		why    api.Reason
	}
	list := []stop{
		{change(empty.bytes(), sumAt, 1), []api.Event{opened("n")}, api.BadSum},
		{change(abc().bytes(), sumAt, 1), []api.Event{given('c')}, api.BadSum},
		{set(many.header(), packedAt, 4, 0), []api.Event{opened("n")}, api.BadSize},
	}
	for _, p := range []plan{many} {
		b := p.bytes()
		a := slowly(b)
		last := a.with(len(b))
		list = append(list, stop{change(b, sizeAt, 1), last[:len(last)-1], api.BadSize}, stop{change(b, sumAt, b[sumAt]^1), last[:len(last)-1], api.BadSum})
		short := set(b, packedAt, 4, uint64(len(p.packed)-1))[:len(b)-1]
		list = append(list, stop{short, a.with(len(b) - 1), api.BadSize})
	}
	for _, x := range badData() {
		p := plan{method: 8, name: "n", packed: x.b}
		list = append(list, stop{p.bytes(), slices.Repeat([]api.Event{given('a')}, x.with), x.why})
	}
	for _, x := range list {
		w := zip.New()
		feed(w, x.b[:len(x.b)-1])
		if w.Reason() != api.None || !w.Put(x.b[len(x.b)-1]) {
			t.Fatalf("%x: it was stopped too soon", short(x.b))
		}
		for _, e := range x.events {
			if w.Reason() != api.None || w.Put(0) {
				t.Fatalf("%x: Reason = %d ahead of an event", short(x.b), w.Reason())
			}
			w.End()
			if got, ok := w.Next(); got != e || !ok {
				t.Fatalf("%x: Next = %v %t, not %v", short(x.b), got, ok, e)
			}
		}
		if w.Reason() != x.why {
			t.Fatalf("%x: Reason = %d, not %d", short(x.b), w.Reason(), x.why)
		}
		wantOver(t, w, x.why)
	}
}

// sumsBehind are sums that begin with some of the bytes 50 4b 07 08, with all of them, and others.
func sumsBehind() []uint32 {
	return []uint32{0x50, 0x12345650, 0xff004b50, 0x00004b50, 0x4b4b4b50, 0x09074b50, 0x07074b50, 0x88074b50, 0x00074b50, 0x08074b50, 0x08074b51, 0x08074a50, 0x08064b50, 0x504b0708, 0, 0xffffffff, 0x04034b50, 0x06054b50}
}

// Sizes behind: a sum that begins with some of the bytes that may stand ahead of it, with these and without; four such bytes in the first place are never the sum.
func TestSumsBehind(t *testing.T) {
	for _, sum := range sumsBehind() {
		data := ofSum(sum)
		if crc32.ChecksumIEEE([]byte(data)) != sum {
			t.Fatalf("%x: the wrong sum", sum)
		}
		for _, p := range ways("n", data) {
			n := len(p.header()) + len(p.body())
			if !p.behind() || p.mark || sum != 0x08074b50 {
				wantAll(t, archive(p.bytes(), p.bytes()), entry{"n", data}, entry{"n", data})
				continue
			}
			want(t, archive(p.bytes(), over), n+8, api.BadSum, entry{"n", data})
			right := archive(p.header(), p.body(), p.trailer()[:4], p.trailer())
			wantAll(t, archive(right, right), entry{"n", data}, entry{"n", data})
		}
	}
}

// Sizes behind: what stands in the place of the four bytes, each of them by every byte, is the sum, unless it is those four.
func TestMarks(t *testing.T) {
	p := plan{method: 8, flags: 8, name: "n", data: "abc", mark: true}
	b := archive(p.bytes(), over)
	n := len(p.header()) + len(p.body())
	for i := range 4 {
		for v := range 256 {
			if b[n+i] != byte(v) {
				want(t, change(b, n+i, byte(v)), n+4, api.BadSum, entry{"n", "abc"})
			}
		}
	}
	mark := []byte("PK\x07\x08")
	want(t, archive(p.header(), p.body(), mark, p.trailer(), over), n+8, api.BadSum, entry{"n", "abc"})
	want(t, archive(p.header(), p.body(), mark), n+4, api.Cut, entry{"n", "abc"})
	want(t, archive(p.header(), p.body(), mark[:3]), n+3, api.Cut, entry{"n", "abc"})
}

// Sizes behind: the sum, each of its bytes by every byte: BadSum with the last one; ahead of BadSize.
func TestSumBehind(t *testing.T) {
	for _, p := range []plan{{}, {mark: true}, {wide: true, extra: record(1, "")}, {wide: true, extra: record(1, ""), mark: true}} {
		p.method, p.flags, p.name, p.data = 8, 8, "n", "abc"
		b := archive(p.bytes(), file("b", "b"), over)
		n := len(p.header()) + len(p.body())
		if p.mark {
			n += 4
		}
		for i := range 4 {
			for v := range 256 {
				if b[n+i] == byte(v) {
					continue
				}
				a := want(t, change(b, n+i, byte(v)), n+4, api.BadSum, entry{"n", "abc"})
				if got := a.with(n + 4); len(got) > 0 {
					t.Fatalf("with the byte that stops it %v", got)
				}
				want(t, change(change(b, n+i, byte(v)), n+4, 77), n+4, api.BadSum, entry{"n", "abc"})
			}
		}
	}
}

// Sizes behind: both numbers, one less, one more, and each of their bytes another one, of four bytes and of eight: BadSize with the last byte of both.
func TestSizesBehind(t *testing.T) {
	for _, data := range []string{"", "abc", strings.Repeat("a", 300)} {
		for _, p := range ways("n", data) {
			if !p.behind() {
				continue
			}
			b := archive(p.bytes(), file("b", "b"), over)
			end, each := len(p.bytes()), 4
			if p.wide {
				each = 8
			}
			first := end - 2*each
			var wrong [][]byte
			for _, d := range []int{-1, 1, 256} {
				wrong = append(wrong, set(b, first, each, uint64(len(p.packed)+d)), set(b, first+each, each, uint64(len(data)+d)), set(set(b, first, each, uint64(len(p.packed)+d)), first+each, each, uint64(len(data)-d)))
			}
			for i := range 2 * each {
				for _, with := range []byte{1, 0x80, 0xff} {
					wrong = append(wrong, change(b, first+i, b[first+i]^with))
				}
			}
			wrong = append(wrong, set(set(b, first, each, uint64(len(data))), first+each, each, uint64(len(p.packed))))
			for _, v := range wrong {
				if slices.Equal(v, b) {
					continue
				}
				a := want(t, v, end, api.BadSize, entry{"n", data})
				if got := a.with(end); len(got) > 0 {
					t.Fatalf("with the byte that stops it %v", got)
				}
			}
		}
	}
}

// Sizes behind: what the header says of the sum and of the sizes is nothing then.
func TestHeaderSaysNothing(t *testing.T) {
	for _, p := range ways("n", "abc") {
		if !p.behind() {
			continue
		}
		for _, v := range []uint64{1, 3, 5, 0x08074b50, 1<<32 - 1} {
			for _, place := range []int{sumAt, packedAt, sizeAt} {
				wantAll(t, set(p.bytes(), place, 4, v), entry{"n", "abc"})
			}
			wantAll(t, set(set(set(p.bytes(), sumAt, 4, v), packedAt, 4, v), sizeAt, 4, v), entry{"n", "abc"})
		}
	}
}

// The sum and the sizes are those of each entry alone, and what one gave is not reached back to out of the next one.
func TestEachEntryAlone(t *testing.T) {
	match := plan{method: 8, name: "m", data: "eee", packed: digits("110", "0000001", "00000", "0000000")}
	for _, first := range ways("n", "some words") {
		for _, second := range ways("m", "others") {
			wantAll(t, archive(first.bytes(), second.bytes(), first.bytes()), entry{"n", "some words"}, entry{"m", "others"}, entry{"n", "some words"})
		}
		b := archive(first.bytes(), match.bytes())
		want(t, b, len(first.bytes())+headLen+1+2, api.BadBack, entry{"n", "some words"}, entry{"m", ""})
	}
}

// Each byte of an entry by some others: what is told is what the slow one tells.
func TestEveryByteOfAnEntry(t *testing.T) {
	for _, p := range ways("n", "abcabcabcabc") {
		b := archive(p.bytes(), file("b", "b"), over)
		for place := range b {
			for _, with := range []byte{1, 2, 4, 8, 16, 32, 64, 128, 0xff} {
				hold(t, change(b, place, b[place]^with))
			}
		}
	}
}
