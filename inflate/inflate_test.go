package inflate_test

import (
	"bytes"
	"compress/flate"
	"fmt"
	"io"
	"math"
	"math/rand"
	"slices"
	"strings"
	"testing"

	"winkle/api"
	"winkle/inflate"
)

// deflated is what the library's writer makes of a text.
func deflated(t *testing.T, text []byte, level int) []byte {
	t.Helper()
	var b bytes.Buffer
	w, err := flate.NewWriter(&b, level)
	if err != nil {
		t.Fatal(err)
	}
	if _, err := w.Write(text); err != nil {
		t.Fatal(err)
	}
	if err := w.Close(); err != nil {
		t.Fatal(err)
	}
	return b.Bytes()
}

// levels are the library's writer's ways.
var levels = []int{flate.HuffmanOnly, flate.NoCompression, 1, 2, 5, 6, 9}

// anyText makes n bytes that repeat themselves now and then.
func anyText(dice *rand.Rand, n int) []byte {
	var text []byte
	letters := 1 + dice.Intn(256)
	for len(text) < n {
		if at := dice.Intn(len(text) + 1); dice.Intn(3) > 0 && at < len(text) {
			text = append(text, text[at:min(len(text), at+dice.Intn(300))]...)
			continue
		}
		for range dice.Intn(20) {
			text = append(text, byte(dice.Intn(letters)))
		}
	}
	return text[:n]
}

// streams are bytes of many kinds: with each kind of block, whole, cut, and stopped by each reason.
func streams() map[string][]byte {
	all := map[string][]byte{
		"none":          nil,
		"stored":        new(writer).stored(true, []byte("abc")).bytes("0"),
		"stored, empty": new(writer).stored(true, nil).bytes("0"),
		"fixed":         new(writer).fixed(true, "abc\xff").bytes("1"),
		"fixed, empty":  new(writer).fixed(true, "").bytes("1"),
		"not last":      new(writer).fixed(false, "ab").stored(false, []byte("cd")).bytes("0"),
		"bad block":     new(writer).fixed(false, "ab").head(true, 3).bytes("0"),
		"bad stored":    new(writer).fixed(false, "ab").storedHead(true, "0", 2, 2).bytes("0"),
		"bad codes":     new(writer).fixed(false, "ab").plan(true, 287, 1, evenSmall(), 4).bytes("0"),
		"bad symbol":    new(writer).head(true, 1).text(fixedSet, "ab").symbol(fixedSet.literals, 286).bytes("0"),
		"bad back":      new(writer).head(true, 1).text(fixedSet, "ab").match(fixedSet, 3, 3).bytes("0"),
	}
	all["matches"] = new(writer).head(true, 1).text(fixedSet, "abc").match(fixedSet, 258, 1).match(fixedSet, 10, 3).end(fixedSet).bytes("0")
	w := new(writer)
	c := w.dynamicHead(false, lengthsOf(286, map[int]int{'a': 2, 'b': 2, 256: 2, 285: 2}), []int{1, 1})
	w.text(c, "ab").match(c, 258, 2).match(c, 258, 1).end(c)
	all["dynamic"] = w.fixed(true, "x").bytes("0")
	return all
}

// The chapter's examples.
func TestExamples(t *testing.T) {
	want(t, []byte{1, 3, 0, 0xfc, 0xff, 'a', 'b', 'c'}, "abc", 8, api.None)
	want(t, []byte{3, 0}, "", 2, api.None)
	want(t, []byte{0x4b, 0x4c, 0x4a, 6, 0}, "abc", 5, api.None)
	want(t, []byte{0x4b, 0x4c, 0x4a}, "ab", 3, api.Cut)
	want(t, []byte{7}, "", 1, api.BadBlock)
	want(t, []byte{1, 0, 0, 0, 0}, "", 5, api.BadStored)
	d := inflate.New()
	if !d.Put(0x4b) {
		t.Error("Put of 4b")
	}
	wantNothing(t, "4b", d, false, api.None)
	if !d.Put(0x4c) {
		t.Error("Put of 4c")
	}
	if b, ok := d.Next(); b != 'a' || !ok {
		t.Error(b, ok)
	}
	wantNothing(t, "4c", d, false, api.None)
}

// P9.1 to P9.4: every kind of bytes, and every beginning of them.
func TestStreams(t *testing.T) {
	for name, b := range streams() {
		t.Run(name, func(t *testing.T) { holdAll(t, b) })
	}
}

// P9.1 to P9.4: all bytes of up to two, held against the slow one.
func TestEveryShortStream(t *testing.T) {
	d := inflate.New()
	for i := range 256 {
		holdAll(t, []byte{byte(i)})
		for j := range 256 {
			b := []byte{byte(i), byte(j)}
			d.Reset()
			follow(t, d, b, slowly(b))
		}
	}
}

// P9.1: New, Next twice where one byte is there, and Put between.
func TestPutAndNext(t *testing.T) {
	d := inflate.New()
	wantNothing(t, "New", d, false, api.None)
	for i, v := range []byte{1, 2, 0, 0xfd, 0xff} {
		if !d.Put(v) {
			t.Fatal(i, "Put = false")
		}
		wantNothing(t, "ahead of the bytes", d, false, api.None)
	}
	if !d.Put('a') {
		t.Fatal("Put of a = false")
	}
	wantWaiting(t, "a", d)
	if b, ok := d.Next(); b != 'a' || !ok {
		t.Fatal(b, ok)
	}
	wantNothing(t, "behind a", d, false, api.None)
	if !d.Put('b') {
		t.Fatal("Put of b = false")
	}
	wantWaiting(t, "b", d)
	if b, ok := d.Next(); b != 'b' || !ok {
		t.Fatal(b, ok)
	}
	wantOver(t, "behind b", d, api.None)
}

// P9.1, P9.2: of one byte that gives many and the end, or what stops it, the bytes come first.
func TestManyBytesOfOne(t *testing.T) {
	begin := func(lengths map[int]int) (*writer, set) {
		w := new(writer)
		return w, w.dynamicHead(true, lengthsOf(286, lengths), []int{1, 0})
	}
	for bits := range 8 { // so that the last block's symbols share a byte in each way
		w, c := begin(map[int]int{'a': 1, 256: 2, 285: 2})
		w.text(c, strings.Repeat("a", bits)).match(c, 258, 1).match(c, 258, 1).end(c)
		text := strings.Repeat("a", bits+516)
		if bits > 0 {
			want(t, w.bytes("1"), text, w.used(), api.None)
		} else {
			want(t, w.bytes("1"), "", w.used()-1, api.BadBack)
		}
		w, c = begin(map[int]int{'a': 1, 256: 2, 285: 2})
		w.text(c, strings.Repeat("a", bits+1)).match(c, 258, 1).length(c, 258).raw("1")
		want(t, w.bytes("1"), "a"+text[:bits+258], w.used(), api.BadSymbol)
	}
}

// P9.2: End ahead of, between and behind all bytes, twice, and what may follow it.
func TestEndAnywhere(t *testing.T) {
	for name, b := range streams() {
		a := slowly(b)
		for n := 0; n <= len(b); n++ {
			d := inflate.New()
			some := a.upTo(n)
			follow(t, d, b[:n], some) // it ends
			d.End()
			wantOver(t, name, d, some.why)
		}
	}
}

// P9.2: End while a byte is to be told does nothing, now or later.
func TestEndWhileWaiting(t *testing.T) {
	b := new(writer).stored(true, []byte("ab")).bytes("0")
	d := inflate.New()
	for _, v := range b[:6] {
		d.Put(v)
	}
	d.End()
	if v, ok := d.Next(); v != 'a' || !ok {
		t.Fatal(v, ok)
	}
	wantNothing(t, "End while a waited", d, false, api.None)
	if !d.Put(b[6]) {
		t.Fatal("Put behind such an End = false")
	}
	d.End()
	if v, ok := d.Next(); v != 'b' || !ok {
		t.Fatal(v, ok)
	}
	wantOver(t, "the end", d, api.None)
}

// putSome puts the first n bytes in; all that they give is told, but of what the last one of them gives only some bytes.
func putSome(d *inflate.Inflater, b []byte, n, some int) {
	for i, v := range b[:n] {
		d.Put(v)
		many := math.MaxInt
		if i == n-1 {
			many = some
		}
		for range many {
			if _, ok := d.Next(); !ok {
				break
			}
		}
	}
}

// P9.2: Reset at any place: it goes on as a new one.
func TestResetAnywhere(t *testing.T) {
	all := streams()
	names := []string{"stored", "fixed", "dynamic", "matches", "bad back", "none"}
	d := inflate.New()
	d.Reset()
	wantNothing(t, "Reset of a new one", d, false, api.None)
	for name, b := range all {
		for n := 0; n <= len(b); n++ {
			for some := range 3 {
				for _, end := range []bool{false, true} {
					then := all[names[(n+some)%len(names)]]
					d.Reset()
					putSome(d, b, n, some)
					if end {
						d.End()
					}
					d.Reset()
					wantNothing(t, name, d, false, api.None)
					follow(t, d, then, slowly(then))
				}
			}
		}
	}
}

// P9.2: behind Reset nothing was given yet: no distance reaches back.
func TestResetForgets(t *testing.T) {
	d := inflate.New()
	for _, text := range []string{"", "a", "abc", strings.Repeat("abcd", 10000)} {
		b := deflated(t, []byte(text), 6)
		d.Reset()
		putSome(d, b, len(b), math.MaxInt)
		if !d.Done() {
			t.Fatalf("%d bytes are not done", len(text))
		}
		for distance := 1; distance <= 4; distance++ {
			d.Reset()
			w := new(writer).head(true, 1).text(fixedSet, "xyz"[:distance-1]).match(fixedSet, 3, distance)
			b := w.bytes("0")
			a := slowly(b)
			if a.why != api.BadBack {
				t.Fatal(a)
			}
			follow(t, d, b, a)
		}
	}
}

// P9.3: Whole with most at its edges, where the bytes end, are cut, and are stopped.
func TestWholeMost(t *testing.T) {
	for _, c := range []struct {
		b    []byte
		most int
		out  string
		used int
		why  api.Reason
	}{
		{[]byte{0x4b, 0x4c, 0x4a, 6, 0}, math.MinInt, "", 2, api.TooMuch},
		{[]byte{0x4b, 0x4c, 0x4a, 6, 0}, -1, "", 2, api.TooMuch},
		{[]byte{0x4b, 0x4c, 0x4a, 6, 0}, 0, "", 2, api.TooMuch},
		{[]byte{0x4b, 0x4c, 0x4a, 6, 0}, 1, "a", 3, api.TooMuch},
		{[]byte{0x4b, 0x4c, 0x4a, 6, 0}, 2, "ab", 4, api.TooMuch},
		{[]byte{0x4b, 0x4c, 0x4a, 6, 0}, 3, "abc", 5, api.None},
		{[]byte{0x4b, 0x4c, 0x4a, 6, 0}, math.MaxInt, "abc", 5, api.None},
		{[]byte{0x4b, 0x4c, 0x4a}, 2, "ab", 3, api.Cut},
		{[]byte{0x4b, 0x4c, 0x4a}, 1, "a", 3, api.TooMuch},
		{[]byte{3, 0}, 0, "", 2, api.None},
		{[]byte{3, 0}, -1, "", 2, api.None},
		{[]byte{3}, 0, "", 1, api.Cut},
		{[]byte{7}, 0, "", 1, api.BadBlock},
		{nil, 0, "", 0, api.Cut},
		{[]byte{}, -1, "", 0, api.Cut},
		{nil, math.MaxInt, "", 0, api.Cut},
	} {
		wantWhole(t, c.b, c.most, answer{out: []byte(c.out), used: c.used, why: c.why})
	}
}

// P9.3: every most, of bytes of which one gives many.
func TestWholeEveryMost(t *testing.T) {
	for _, b := range streams() {
		a := slowly(b)
		for most := range len(a.out) + 2 {
			wantWhole(t, b, most, a.within(most))
		}
	}
}

// P9.4: what stands behind the end, or behind what stops it, is not looked at.
func TestBehindTheEnd(t *testing.T) {
	for _, b := range streams() {
		a := slowly(b)
		if a.why == api.Cut {
			continue
		}
		for _, more := range [][]byte{{0}, {7}, {255}, b, bytes.Repeat([]byte{255}, 99)} {
			long := slices.Concat(b[:a.used], more)
			follow(t, inflate.New(), long, a)
			wantMost(t, long, a)
		}
	}
}

// P9.4: texts are given back, and of every beginning as much as is known by then.
func TestEveryBeginningOfTexts(t *testing.T) {
	dice := rand.New(rand.NewSource(1))
	for _, text := range [][]byte{nil, []byte("a"), []byte("It was the best of times, it was the worst of times, it was the age of wisdom, it was the age of foolishness"), anyText(dice, 700), bytes.Repeat([]byte{0}, 3000)} {
		for _, level := range levels {
			b := deflated(t, text, level)
			if a := holdAll(t, b); !bytes.Equal(a.out, text) || a.used != len(b) || a.why != api.None {
				t.Errorf("level %d: %d bytes, %d, %d of %x", level, len(a.out), a.used, int(a.why), short(text))
			}
		}
	}
}

// P9.3, P9.4, and theorem 5: longer texts, deflated in each of the library's ways, are given back whole.
func TestLongTexts(t *testing.T) {
	dice := rand.New(rand.NewSource(2))
	some := noise(70000)
	texts := [][]byte{some, some[:65535], some[:65536], bytes.Repeat([]byte("winkle "), 60000), slices.Concat(some[:32768], some[:32768]), slices.Concat(some[:33000], some[:33000])}
	for range 6 {
		texts = append(texts, anyText(dice, dice.Intn(100000)))
	}
	for i, text := range texts {
		for _, level := range levels {
			b := deflated(t, text, level)
			out, used, why := inflate.Whole(slices.Concat(b, []byte{1, 2, 3}), math.MaxInt)
			if !bytes.Equal(out, text) || used != len(b) || why != api.None {
				t.Errorf("text %d, level %d: %d bytes of %d, used %d of %d, why %d", i, level, len(out), len(text), used, len(b), int(why))
			}
		}
	}
}

// P9.4, and theorem 5: a writer that flushes now and then makes empty stored blocks between others.
func TestFlushedTexts(t *testing.T) {
	dice := rand.New(rand.NewSource(3))
	for range 30 {
		var b bytes.Buffer
		w, _ := flate.NewWriter(&b, levels[dice.Intn(len(levels))])
		var text []byte
		for range dice.Intn(12) {
			some := anyText(dice, dice.Intn(200))
			text = append(text, some...)
			w.Write(some)
			w.Flush()
		}
		w.Close()
		if a := hold(t, b.Bytes()); !bytes.Equal(a.out, text) || a.why != api.None {
			t.Errorf("%x: %x, %d", short(text), short(a.out), int(a.why))
		}
	}
}

// P9.4: bytes that were deflated and then changed, cut or mingled, and any bytes, held against the slow one.
func TestChangedBytes(t *testing.T) {
	dice := rand.New(rand.NewSource(4))
	var begun [][]byte
	for _, b := range streams() {
		begun = append(begun, b)
	}
	slices.SortFunc(begun, bytes.Compare)
	for range 40 {
		begun = append(begun, deflated(t, anyText(dice, dice.Intn(300)), levels[dice.Intn(len(levels))]))
	}
	reasons := map[api.Reason]int{}
	for range 3000 {
		b := slices.Clone(begun[dice.Intn(len(begun))])
		for range dice.Intn(3) {
			if len(b) > 0 {
				b[dice.Intn(min(len(b), 60))] ^= 1 << dice.Intn(8)
			}
		}
		for range dice.Intn(3) {
			b = append(b, byte(dice.Intn(256)))
		}
		a := slowly(b)
		follow(t, inflate.New(), b, a)
		wantWhole(t, b, math.MaxInt, a)
		reasons[a.why]++
	}
	for _, why := range []api.Reason{api.None, api.Cut, api.BadBlock, api.BadStored, api.BadCodes, api.BadSymbol, api.BadBack} {
		if reasons[why] < 5 {
			t.Errorf("reason %d came %d times", int(why), reasons[why])
		}
	}
}

// P9.4: the same, of bytes by chance.
func TestAnyBytes(t *testing.T) {
	dice := rand.New(rand.NewSource(5))
	d := inflate.New()
	for range 20000 {
		b := make([]byte, dice.Intn(40))
		dice.Read(b)
		if len(b) > 0 && dice.Intn(2) == 0 {
			b[0] = b[0]&^7 | byte(2+dice.Intn(4)) // fixed and dynamic blocks
		}
		d.Reset()
		follow(t, d, b, slowly(b))
	}
}

// Theorem 5: the library's reader takes and gives the same.
func TestTheLibraryAgrees(t *testing.T) {
	for name, b := range streams() {
		out, _, why := inflate.Whole(b, math.MaxInt)
		other, err := io.ReadAll(flate.NewReader(bytes.NewReader(b)))
		if (err == nil) != (why == api.None) {
			t.Errorf("%s: reason %d, but %v", name, int(why), err)
		}
		if err == nil && !bytes.Equal(out, other) {
			t.Errorf("%s: %x, not %x", name, out, other)
		}
	}
}

// Rule 1: a nil inflater answers zero values, and does nothing.
func TestNil(t *testing.T) {
	var d *inflate.Inflater
	for i := range 256 {
		if d.Put(byte(i)) {
			t.Error("Put = true")
		}
		wantNothing(t, "nil", d, false, api.None)
		d.End()
		wantNothing(t, "nil behind End", d, false, api.None)
		d.Reset()
		wantNothing(t, "nil behind Reset", d, false, api.None)
	}
}

// Rule 1: blocks that give nothing are gone through, however many there are.
func TestManyShortBlocks(t *testing.T) {
	for name, write := range map[string]func(*writer){
		"fixed":   func(w *writer) { w.fixed(false, "") },
		"stored":  func(w *writer) { w.stored(false, nil) },
		"dynamic": func(w *writer) { w.dynamic(false, lengthsOf(257, map[int]int{256: 1}), []int{0}, "") },
	} {
		w := new(writer)
		for range 2000 {
			write(w)
		}
		b := w.fixed(true, "x").bytes("0")
		if out, used, why := inflate.Whole(b, 9); string(out) != "x" || used != len(b) || why != api.None {
			t.Errorf("%s: %q, %d of %d, %d", name, out, used, len(b), int(why))
		}
	}
}

// Rule 3: what was handed in is as it was, its spare room too, and is not kept; what was answered may be changed.
func TestMemory(t *testing.T) {
	for name, b := range streams() {
		spare := slices.Concat(b, []byte{9, 9, 9, 9})
		given := spare[:len(b)]
		kept := slices.Clone(spare)
		one, used, why := inflate.Whole(given, math.MaxInt)
		two, _, _ := inflate.Whole(given, math.MaxInt)
		told := slices.Clone(one)
		for i := range one[:cap(one)] {
			one[:cap(one)][i] ^= 0xff
		}
		if !bytes.Equal(spare, kept) {
			t.Errorf("%s: what was handed in was changed", name)
		}
		if !bytes.Equal(two, told) {
			t.Errorf("%s: two answers share memory", name)
		}
		for i := range given {
			given[i] ^= 0xff
		}
		if !bytes.Equal(two, told) {
			t.Errorf("%s: an answer shares memory with what was handed in", name)
		}
		wantWhole(t, kept[:len(b)], math.MaxInt, answer{out: told, used: used, why: why})
	}
}

// Rule 4: inflaters by turns have nothing in common.
func TestByTurns(t *testing.T) {
	dice := rand.New(rand.NewSource(6))
	all := streams()
	for first, b := range all {
		for second, c := range all {
			lists, names := [2][]byte{b, c}, [2]string{first, second}
			ds := [2]*inflate.Inflater{inflate.New(), inflate.New()}
			var out [2][]byte
			var at [2]int
			for at[0] < len(b) || at[1] < len(c) {
				i := dice.Intn(2)
				if at[i] < len(lists[i]) && !ds[i].Put(lists[i][at[i]]) && (ds[i].Done() || ds[i].Reason() != api.None) {
					at[i] = len(lists[i])
					continue
				}
				if at[i] < len(lists[i]) {
					at[i]++
				}
				for v, ok := ds[i].Next(); ok; v, ok = ds[i].Next() {
					out[i] = append(out[i], v)
				}
			}
			for i, d := range ds {
				d.End()
				if a := slowly(lists[i]); !bytes.Equal(out[i], a.out) || d.Reason() != a.why || d.Done() != (a.why == api.None) {
					t.Errorf("%s with %s: %x, %d, not %x, %d", names[i], names[1-i], out[i], int(d.Reason()), a.out, int(a.why))
				}
			}
		}
	}
}

// Rule 4: the same bytes are told the same again and again.
func TestAgain(t *testing.T) {
	for name, b := range streams() {
		first := fmt.Sprint(inflate.Whole(b, 300))
		inflate.Whole(new(writer).fixed(true, "other").bytes("0"), 2)
		if again := fmt.Sprint(inflate.Whole(b, 300)); again != first {
			t.Errorf("%s: %s, then %s", name, first, again)
		}
	}
}
