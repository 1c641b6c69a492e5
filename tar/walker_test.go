package tar_test

import (
	"math/rand"
	"slices"
	"strings"
	"testing"

	"winkle/api"
	"winkle/tar"
)

// P16.1: where nothing was put in, nothing is known.
func TestNew(t *testing.T) {
	w := tar.New()
	if w == nil {
		t.Fatal("New = nil")
	}
	wantQuiet(t, w, api.None)
	if !w.Put('a') {
		t.Error("Put = false")
	}
	wantQuiet(t, w, api.None)
	w.Reset()
	w.End()
	wantOver(t, w, api.None)
}

// P16.1: which events there are, and with which byte each is known, by hand.
func TestEventsByHand(t *testing.T) {
	for n, data := range map[int]string{0: "", 1: "x", 3: "abc", 511: noise(511), 512: noise(512), 513: noise(513), 1024: noise(1024), 1025: noise(1025)} {
		b := file("name", data)
		w := tar.New()
		for i, v := range b {
			if !w.Put(v) {
				t.Fatalf("Put of byte %d = false", i)
			}
			var events []api.Event
			if i == 511 {
				events = append(events, opened("name"))
			}
			if i >= 512 && i < 512+n {
				events = append(events, given(v))
			}
			if i == 511+n {
				events = append(events, closed)
			}
			wantTold(t, w, events, api.None)
		}
		w.End()
		wantOver(t, w, api.None)
	}
}

// P16.1: an event's other fields are zero ones, its Node KindFile, its Text the name.
func TestFieldsOfEvents(t *testing.T) {
	w := tar.New()
	b := file("n", "x")
	feed(w, b[:511])
	w.Put(b[511])
	if e, ok := w.Next(); e != (api.Event{Kind: api.EventOpen, Node: api.KindFile, Text: "n"}) || !ok {
		t.Errorf("Next = %v %t", e, ok)
	}
	w.Put('x')
	if e, ok := w.Next(); e != (api.Event{Kind: api.EventByte, Byte: 'x'}) || !ok {
		t.Errorf("Next = %v %t", e, ok)
	}
	if e, ok := w.Next(); e != (api.Event{Kind: api.EventClose}) || !ok {
		t.Errorf("Next = %v %t", e, ok)
	}
}

// P16.1: Put of any byte while Next would tell an event is refused, End then does nothing, and nothing has changed.
func TestPutAndEndWhileNextWouldTell(t *testing.T) {
	b := all()
	a := slowly(b)
	w := tar.New()
	for i, v := range b {
		if !w.Put(v) {
			t.Fatalf("Put of byte %d = false", i)
		}
		for _, e := range a.with(i + 1) {
			for c := range 256 {
				if w.Put(byte(c)) {
					t.Fatalf("Put(%d) ahead of %v = true", c, e)
				}
			}
			w.End()
			w.End()
			if got, ok := w.Next(); got != e || !ok {
				t.Fatalf("Next = %v %t, not %v", got, ok, e)
			}
		}
		wantQuiet(t, w, api.None)
	}
	w.End()
	wantOver(t, w, api.None)
}

// stops are archives that are stopped by their last byte.
func stops() map[string]api.Reason {
	first := string(file("first", "1"))
	path := record("path", strings.Repeat("n", 257))
	size := record("size", "-1")
	long257 := string(long(strings.Repeat("n", 257))[:512+257])
	list := map[string]api.Reason{
		strings.Repeat("x", 512):                          api.BadSum,
		string(plan{kind: '0', size: "x"}.block()):        api.BadNumber,
		string(plan{kind: 'L', size: "402\x00"}.block()):  api.BadName,
		string(plan{kind: 'x', size: "2001\x00"}.block()): api.BadName,
		long257:                                  api.BadName,
		string(extra(path)[:512+len(path)]):      api.BadName,
		string(extra(size)[:512+len(size)]):      api.BadNumber,
		string(extra("5 =\n")[:512+4]):           api.BadRecord,
		string(extra(noise(512))):                api.BadRecord,
		string(extra(noise(1024))):               api.BadRecord,
		string(extra(noise(513))[:512+513]):      api.BadRecord,
		string(zeros(511)) + "\x01":              api.BadSum,
		string(plan{kind: 1, size: "9"}.block()): api.BadNumber,
	}
	both := map[string]api.Reason{}
	for b, why := range list {
		both[b] = why
		both[first+b] = why
	}
	return both
}

// P16.1: when it is stopped, every byte is refused, and nothing changes; ahead of the byte that stops it Reason is None.
func TestPutWhenStopped(t *testing.T) {
	for b, why := range stops() {
		w := tar.New()
		feed(w, []byte(b[:len(b)-1]))
		wantQuiet(t, w, api.None)
		if !w.Put(b[len(b)-1]) {
			t.Fatal("Put of the byte that stops it = false")
		}
		wantQuiet(t, w, why)
		for v := range 256 {
			if w.Put(byte(v)) {
				t.Fatalf("%q: Put(%d) = true", short([]byte(b)), v)
			}
		}
		w.End()
		wantOver(t, w, why)
	}
}

// P16.2: End at each kind of place, by hand: how many bytes of the archive were there, and why.
func TestEnd(t *testing.T) {
	a := file("a", noise(700))
	for _, x := range []struct {
		b   []byte
		why api.Reason
	}{
		{nil, api.None}, {a[:1], api.Cut}, {a[:511], api.Cut}, {a[:512], api.Cut}, {a[:513], api.Cut}, {a[:1023], api.Cut}, {a[:1024], api.Cut}, {a[:1025], api.Cut}, {a[:1211], api.Cut}, {a[:1212], api.Cut}, {a[:1213], api.Cut}, {a[:1535], api.Cut}, {a, api.None},
		{archive(a, zeros(1)), api.Cut}, {archive(a, zeros(511)), api.Cut}, {archive(a, zeros(512)), api.None}, {archive(a, zeros(513)), api.None}, {archive(a, zeros(512), []byte("x")), api.None},
		{file("a", ""), api.None}, {file("a", noise(512)), api.None}, {file("a", noise(512))[:1023], api.Cut}, {file("a", noise(513))[:1024], api.Cut},
		{long("n"), api.None}, {long("n")[:512], api.Cut}, {long("n")[:513], api.Cut}, {long("n")[:1023], api.Cut}, {long(""), api.None},
		{extra(record("k", "v")), api.None}, {extra(record("k", "v"))[:514], api.Cut}, {extra(record("k", "v"))[:1023], api.Cut}, {extra(), api.None},
		{plan{kind: '5', data: "x"}.bytes(), api.None}, {plan{kind: '5', data: "x"}.bytes()[:512], api.Cut}, {plan{kind: '5', data: "x"}.bytes()[:513], api.Cut}, {plan{kind: 'g', data: noise(512)}.bytes(), api.None}, {plan{kind: 'K', data: noise(512)}.bytes()[:1023], api.Cut},
		{archive(extra(record("size", "513")), plan{kind: '0', size: "1\x00"}.block(), zeros(512)), api.Cut}, {archive(extra(record("size", "0")), plan{kind: '0', size: "1\x00"}.block()), api.None},
	} {
		w := tar.New()
		if n := feed(w, x.b); n != len(x.b) {
			t.Fatalf("%d of %d bytes were taken", n, len(x.b))
		}
		wantQuiet(t, w, api.None)
		w.End()
		wantQuiet(t, w, x.why)
		for v := range 256 {
			if w.Put(byte(v)) {
				t.Fatalf("%d bytes: Put(%d) behind End = true", len(x.b), v)
			}
		}
		w.End()
		wantOver(t, w, x.why)
	}
}

// P16.2: the bytes ended at every place of an archive.
func TestEndAtEveryPlace(t *testing.T) {
	b := all()
	for n := range len(b) + 1 {
		a := slowly(b[:n])
		w := tar.New()
		feed(w, b[:n])
		wantQuiet(t, w, api.None)
		w.End()
		wantOver(t, w, a.why)
		wantWhole(t, b[:n], a.why, a.entries()...)
	}
}

// P16.2: an End that did nothing, as an event was to be told, does not count.
func TestEndTooSoon(t *testing.T) {
	w := tar.New()
	b := file("a", "x")
	feed(w, b[:511])
	w.Put(b[511])
	w.End()
	wantTold(t, w, []api.Event{opened("a")}, api.None)
	if !w.Put('x') {
		t.Fatal("Put = false")
	}
	w.End()
	if e, ok := w.Next(); e != given('x') || !ok {
		t.Fatalf("Next = %v %t", e, ok)
	}
	w.End()
	wantTold(t, w, []api.Event{closed}, api.None)
	if !w.Put(0) {
		t.Fatal("Put = false")
	}
	w.End()
	wantOver(t, w, api.Cut)
}

// P16.1: behind the archive's end every byte is taken, and tells nothing.
func TestPutBehindTheEnd(t *testing.T) {
	for _, ahead := range [][]byte{nil, file("a", "abc"), long("n")} {
		w := tar.New()
		feed(w, archive(ahead, zeros(512)))
		for i := range 3 * 512 * 256 {
			if !w.Put(byte(i / 3)) {
				t.Fatal("Put = false")
			}
			if e, ok := w.Next(); e != (api.Event{}) || ok || w.Reason() != api.None {
				t.Fatalf("Next = %v %t, Reason = %d", e, ok, w.Reason())
			}
		}
		for _, v := range archive(file("a", "abc"), []byte(strings.Repeat("x", 700))) {
			if !w.Put(v) {
				t.Fatal("Put = false")
			}
			wantQuiet(t, w, api.None)
		}
		w.End()
		wantOver(t, w, api.None)
	}
}

// What stands behind data, up to the next whole block, is anything.
func TestWhatStandsBehindData(t *testing.T) {
	for _, n := range []int{1, 2, 256, 257, 510, 511, 513, 1023} {
		for _, kind := range []byte{'0', '5', 'L', 'g', 'K', 'x'} {
			data := strings.Repeat("d", n)
			if kind == 'x' {
				data = record("k", data)
			}
			if kind == 'L' && n > 256 || kind == 'x' && len(data) > 1024 {
				continue
			}
			p := plan{name: "a", kind: kind, data: data}
			for _, filler := range []string{strings.Repeat("x", 512), noise(512), string(file("z", "")), strings.Repeat("\x00", 511) + "x"} {
				b := archive(p.block(), []byte(data), []byte(filler[:(512-len(data)%512)%512]), file("b", "b"))
				switch kind {
				case '0':
					wantAll(t, b, entry{"a", data}, entry{"b", "b"})
				case 'L':
					wantAll(t, b, entry{data, "b"})
				default:
					wantAll(t, b, entry{"b", "b"})
				}
			}
		}
	}
}

// begun are walkers' beginnings, of each kind, behind which Reset is tried.
func begun() map[string]func(w *tar.Walker) {
	put := func(b ...[]byte) func(w *tar.Walker) {
		return func(w *tar.Walker) { feed(w, archive(b...)) }
	}
	untold := func(b []byte, told int) func(w *tar.Walker) {
		return func(w *tar.Walker) {
			feed(w, b[:len(b)-1])
			w.Put(b[len(b)-1])
			for range told {
				w.Next()
			}
		}
	}
	ended := func(b []byte) func(w *tar.Walker) {
		return func(w *tar.Walker) {
			feed(w, b)
			w.End()
		}
	}
	size := extra(record("size", "9"), record("path", "by x"))
	list := map[string]func(w *tar.Walker){
		"ahead of all":            func(w *tar.Walker) {},
		"within a header":         put(file("a", "x")[:100]),
		"ahead of a header's end": put(file("a", "x")[:511]),
		"within a file":           put(file("a", "xyz")[:514]),
		"within a long file":      put(file("a", noise(2000))[:1024]),
		"behind data":             put(file("a", "xyz")[:600]),
		"behind a file":           put(file("a", "xyz")),
		"a name to come":          put(long("n")),
		"an empty name to come":   put(long("")),
		"within a name to come":   put(long("name")[:514]),
		"a size to come":          put(size),
		"within records":          put(size[:520]),
		"within what is passed":   put(plan{kind: '5', data: "xyz"}.bytes()[:513]),
		"behind the end":          put(zeros(512)),
		"far behind the end":      put(zeros(1000)),
		"cut":                     ended(file("a", "x")[:512]),
		"cut behind data":         ended(file("a", "x")[:600]),
		"ended":                   ended(file("a", "x")),
		"ended ahead of all":      ended(nil),
		"an open untold":          untold(file("a", "x")[:512], 0),
		"both untold":             untold(file("a", ""), 0),
		"a close behind an open":  untold(file("a", ""), 1),
		"a byte untold":           untold(file("a", "xyz")[:514], 0),
		"a byte and close untold": untold(file("a", "xyz")[:515], 0),
		"a close untold":          untold(file("a", "xyz")[:515], 1),
	}
	for b := range stops() {
		list["stopped by "+b] = put([]byte(b))
	}
	return list
}

// P16.2: behind Reset it is as behind New, whatever was done.
func TestReset(t *testing.T) {
	files := [][]byte{nil, {0}, file("b", "b"), all(), long("l"), archive(extra(record("size", "2")), file("c", "d")), []byte(noise(512))}
	for name, begin := range begun() {
		for _, b := range files {
			w := tar.New()
			begin(w)
			w.Reset()
			follow(t, w, b, slowly(b))
			w.Reset()
			w.Reset()
			follow(t, w, files[2], slowly(files[2]))
			if t.Failed() {
				t.Fatal(name)
			}
		}
	}
}

// Rule 1: a nil walker.
func TestNil(t *testing.T) {
	var w *tar.Walker
	for range 2 {
		for v := range 256 {
			if w.Put(byte(v)) {
				t.Errorf("Put(%d) = true", v)
			}
		}
		wantOver(t, w, api.None)
		w.End()
		w.Reset()
	}
}

// Rule 4: two walkers have nothing in common.
func TestTwoWalkersByTurns(t *testing.T) {
	one, two := all(), archive(long("another"), extra(record("size", "700"), record("path", "third")), file("x", noise(700)), file("y", noise(3000)))
	a, b := slowly(one), slowly(two)
	v, w := tar.New(), tar.New()
	for i := range min(len(one), len(two)) {
		if !v.Put(one[i]) || !w.Put(two[i]) {
			t.Fatalf("Put of byte %d = false", i)
		}
		wantTold(t, w, b.with(i+1), api.None)
		wantTold(t, v, a.with(i+1), api.None)
	}
	w.Reset()
	feed(w, []byte(noise(512)))
	wantQuiet(t, w, api.BadSum)
	v.Reset()
	wantQuiet(t, w, api.BadSum)
	follow(t, v, two, b)
	w.Reset()
	wantShut(t, v)
	follow(t, w, one, a)
}

// Theorem 3 needs it: while data goes on, kept or not, there is no need of more room, behind Reset neither.
func TestRoomStaysTheSame(t *testing.T) {
	head := func(kind byte, size string) []byte { return plan{kind: kind, size: size}.block() }
	for name, ahead := range map[string][]byte{
		"a header":       nil,
		"a file":         head('0', "7777777\x00"),
		"passed":         head('5', "7777777\x00"),
		"a name":         head('L', "401\x00"),
		"records":        head('x', "2000\x00"),
		"behind data":    archive(head('0', "1\x00"), []byte("x")),
		"behind the end": zeros(512),
	} {
		w := tar.New()
		for range 2 {
			feed(w, ahead)
			if n := testing.AllocsPerRun(1, func() { // which is done once ahead of being looked at
				for range 120 {
					if !w.Put('x') {
						t.Fatalf("%s: Put = false", name)
					}
					w.Next()
				}
			}); n != 0 {
				t.Errorf("%s: %v times there was need of more room", name, n)
			}
			w.Reset()
		}
	}
}

// pieces are what archives are put together from, at random.
func pieces(r *rand.Rand) []byte {
	data := noise(2000)[:[]int{0, 1, 2, 255, 256, 257, 258, 511, 512, 513, 1024, 1025}[r.Intn(12)]]
	switch r.Intn(12) {
	case 0:
		return long(data)
	case 1:
		return long(strings.ReplaceAll(data, "\x00", "0"))
	case 2, 3, 4:
		var rows []string
		for range r.Intn(4) {
			name := strings.Repeat("n", []int{0, 1, 255, 256, 257}[r.Intn(5)])
			size := []string{"0", "1", "512", "513", "001", "x"}[min(r.Intn(40), r.Intn(6))]
			rows = append(rows, record("path", name), record("size", size), good()[r.Intn(len(good()))])
			rows = slices.Delete(rows, r.Intn(len(rows)), len(rows))
		}
		if r.Intn(20) == 0 {
			rows = append(rows, bad()[r.Intn(len(bad()))])
		}
		return extra(rows...)
	case 5:
		return plan{kind: "Kg"[r.Intn(2)], data: data}.bytes()
	case 6:
		return plan{kind: byte(r.Intn(256)), data: data}.bytes()
	}
	p := plan{name: "name", kind: "0\x007"[r.Intn(3)], data: data, prefix: []string{"", "pre"}[r.Intn(2)], magic: []string{"", "ustar"}[r.Intn(2)]}
	return p.bytes()
}

// P16.1: archives put together at random, whole, cut off, and changed at a few places with the sums right again.
func TestArchivesAtRandom(t *testing.T) {
	r := rand.New(rand.NewSource(16))
	for range 500 {
		var b []byte
		for range r.Intn(7) {
			b = append(b, pieces(r)...)
		}
		if r.Intn(3) == 0 {
			b = append(b, zeros(1024)...)
		}
		hold(t, b)
		if len(b) == 0 {
			continue
		}
		hold(t, b[:r.Intn(len(b))])
		place := r.Intn(len(b))
		b = change(b, place, byte(r.Intn(256)))
		hold(t, b)
		block := place / 512 * 512
		copy(b[block:], summed(b[block:block+512]))
		hold(t, b)
	}
}
