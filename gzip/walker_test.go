package gzip_test

import (
	"math/rand"
	"runtime"
	"slices"
	"strings"
	"testing"

	"winkle/api"
	"winkle/gzip"
)

// P15.1: where nothing was put in, nothing is known.
func TestNew(t *testing.T) {
	w := gzip.New()
	if w == nil {
		t.Fatal("New = nil")
	}
	wantQuiet(t, w, api.None)
	if !w.Put(0x1f) {
		t.Error("Put = false")
	}
	wantQuiet(t, w, api.None)
}

// P15.1: Put of any byte while Next would tell an event is refused, End then does nothing, and nothing has changed.
func TestPutAndEndWhileNextWouldTell(t *testing.T) {
	p := full()
	p.data, p.deflated = "aaaaaaaaaaaaaaaaaaaa", packed(shortCodes("1"), strings.Repeat("0", 20), "1")
	file := slices.Concat(p.bytes(), one())
	a := slowly(file)
	w := gzip.New()
	for i, b := range file {
		if !w.Put(b) {
			t.Fatalf("Put of byte %d = false", i)
		}
		for _, e := range a.with(i + 1) {
			for v := range 256 {
				if w.Put(byte(v)) {
					t.Fatalf("Put(%d) ahead of %v = true", v, e)
				}
			}
			w.End()
			w.End()
			if got, ok := w.Next(); got != e || !ok {
				t.Fatalf("Next = %v %t, not %v", got, ok, e)
			}
		}
		wantQuiet(t, w, api.None)
	}
	w.End()
	wantOver(t, w, api.None)
}

// P15.1: when it is stopped, every byte is refused, and nothing changes.
func TestPutWhenStopped(t *testing.T) {
	p := plan{flags: 2}
	for _, x := range []struct {
		b   []byte
		why api.Reason
	}{
		{[]byte{0x1e}, api.BadMagic}, {[]byte{0x1f, 0x8c}, api.BadMagic}, {[]byte{0x1f, 0x8b, 9}, api.BadMethod}, {[]byte{0x1f, 0x8b, 8, 32}, api.BadFlags},
		{append(plan{flags: 4}.header()[:10], 1, 4), api.BadName}, {slices.Concat(p.header()[:10], []byte{0, 0}), api.BadHead}, {append(plan{}.header(), 7), api.BadBlock},
		{slices.Concat(abc()[:15], zeros(4)), api.BadSum}, {slices.Concat(abc()[:19], zeros(4)), api.BadSize}, {append(abc(), 1), api.BadTail}, {append(abc(), 0, 0, 1), api.BadTail},
		{slices.Concat(abc(), []byte{0x1f, 0}), api.BadMagic},
	} {
		w := gzip.New()
		if n := feed(w, x.b); n != len(x.b) {
			t.Fatalf("%x: %d bytes were taken", x.b, n)
		}
		for v := range 256 {
			if w.Put(byte(v)) {
				t.Fatalf("%x: Put(%d) = true", x.b, v)
			}
		}
		wantOver(t, w, x.why)
	}
}

// P15.2: End at each kind of place: twice, when it is stopped, directly behind a member, behind bytes 0; Put behind it.
func TestEnd(t *testing.T) {
	for _, x := range []struct {
		b   []byte
		why api.Reason
	}{
		{nil, api.Cut}, {abc()[:1], api.Cut}, {abc()[:3], api.Cut}, {abc()[:9], api.Cut}, {abc()[:10], api.Cut}, {abc()[:13], api.Cut}, {abc()[:15], api.Cut}, {abc()[:19], api.Cut}, {abc()[:22], api.Cut},
		{abc(), api.None}, {append(abc(), 0), api.None}, {append(abc(), 0, 0, 0), api.None}, {append(abc(), 0x1f), api.Cut}, {append(abc(), abc()[:22]...), api.Cut}, {append(abc(), abc()...), api.None},
		{append(abc(), 7), api.BadTail}, {[]byte{0}, api.BadMagic},
	} {
		w := gzip.New()
		feed(w, x.b)
		if x.why == api.Cut {
			wantQuiet(t, w, api.None)
		} else {
			wantQuiet(t, w, x.why)
		}
		w.End()
		wantQuiet(t, w, x.why)
		for v := range 256 {
			if w.Put(byte(v)) {
				t.Fatalf("%x: Put(%d) behind End = true", x.b, v)
			}
		}
		w.End()
		wantOver(t, w, x.why)
	}
}

// P15.2: an End that did nothing, as an event was to be told, does not count.
func TestEndTooSoon(t *testing.T) {
	w := gzip.New()
	b := abc()
	feed(w, b[:22])
	w.Put(b[22])
	w.End()
	wantTold(t, w, []api.Event{closed}, api.None)
	if !w.Put(0x1f) {
		t.Fatal("Put = false")
	}
	w.End()
	wantOver(t, w, api.Cut)
}

// P15.1: behind bytes 0 every byte 0 is taken, and there is no event.
func TestPutBehindZeros(t *testing.T) {
	w := gzip.New()
	feed(w, abc())
	for range 70000 {
		if !w.Put(0) {
			t.Fatal("Put = false")
		}
		if e, ok := w.Next(); e != (api.Event{}) || ok || w.Reason() != api.None {
			t.Fatalf("Next = %v %t", e, ok)
		}
	}
	if !w.Put(0x1f) {
		t.Fatal("Put of another byte = false")
	}
	wantOver(t, w, api.BadTail)
}

// begun are walkers' beginnings, of each kind, behind which Reset is tried.
func begun() map[string]func(w *gzip.Walker) {
	put := func(b ...[]byte) func(w *gzip.Walker) {
		return func(w *gzip.Walker) { feed(w, slices.Concat(b...)) }
	}
	untold := func(b []byte) func(w *gzip.Walker) {
		return func(w *gzip.Walker) {
			feed(w, b[:len(b)-1])
			w.Put(b[len(b)-1])
		}
	}
	ended := func(b []byte) func(w *gzip.Walker) {
		return func(w *gzip.Walker) {
			feed(w, b)
			w.End()
		}
	}
	header := full().header()
	many := slices.Concat(plan{}.header(), packed(shortCodes("1"), strings.Repeat("0", 20)))
	list := map[string]func(w *gzip.Walker){
		"ahead of all":       func(w *gzip.Walker) {},
		"within stored data": put(plan{}.header(), deflated(noise(1000), 0)[:500]),
		"behind the end":     put(plan{}.header(), deflated(noise(40000), 9)),
		"within the sum":     put(abc()[:17]),
		"within the size":    put(abc()[:21]),
		"behind a member":    put(abc()),
		"within the second":  put(abc(), abc()[:5]),
		"behind zeros":       put(abc(), zeros(3)),
		"stopped":            put(abc(), []byte{1}),
		"stopped by a name":  put(plan{flags: 8}.header()[:10], []byte(strings.Repeat("x", 257))),
		"stopped by data":    put(plan{}.header(), []byte{7}),
		"cut":                ended(abc()[:12]),
		"cut ahead of all":   ended(nil),
		"ended":              ended(abc()),
		"an open untold":     untold(header),
		"a byte untold":      untold(many),
		"a close untold":     untold(abc()),
	}
	for n := range header {
		list["within a header, byte "+string(rune('a'+n))] = put(header[:n])
	}
	return list
}

// P15.2: behind Reset it is as behind New, whatever was done.
func TestReset(t *testing.T) {
	p := plan{data: strings.Repeat("some words, ", 9), deflated: deflated(strings.Repeat("some words, ", 9), 9)}
	back := slices.Concat(plan{}.header(), packed("110", "0000001", "00000"), []byte{0, 0})
	files := [][]byte{nil, abc(), slices.Concat(full().bytes(), p.bytes(), zeros(2)), {0}, back, append(abc(), 2), plan{flags: 2}.bytes(), plan{flags: 1}.bytes()[:15]}
	for name, begin := range begun() {
		for _, file := range files {
			w := gzip.New()
			begin(w)
			w.Reset()
			follow(t, w, file, slowly(file))
			w.Reset()
			w.Reset()
			follow(t, w, abc(), slowly(abc()))
			if t.Failed() {
				t.Fatal(name)
			}
		}
	}
}

// P15.1: bytes of no sense, and files that were changed at a few places.
func TestChangedFiles(t *testing.T) {
	r := rand.New(rand.NewSource(15))
	p := full()
	p.data, p.deflated = strings.Repeat("some words, ", 9), deflated(strings.Repeat("some words, ", 9), 9)
	file := slices.Concat(abc(), p.bytes(), one(), zeros(3))
	for range 3000 {
		b := slices.Clone(file)
		for range 1 + r.Intn(3) {
			b[r.Intn(len(b))] = byte(r.Intn(256))
		}
		hold(t, b)
	}
	for range 2000 {
		b := slices.Concat([]byte{0x1f, 0x8b, 8, byte(r.Intn(40))}, []byte(noise(1000)[r.Intn(900):]))
		hold(t, b)
	}
}

// Rule 1: a nil walker.
func TestNil(t *testing.T) {
	var w *gzip.Walker
	for range 2 {
		for v := range 256 {
			if w.Put(byte(v)) {
				t.Errorf("Put(%d) = true", v)
			}
		}
		wantOver(t, w, api.None)
		w.End()
		w.Reset()
	}
}

// Rule 4: two walkers have nothing in common.
func TestTwoWalkersByTurns(t *testing.T) {
	p := full()
	p.name = "another"
	one, two := slices.Concat(full().bytes(), abc(), zeros(40)), slices.Concat(abc(), p.bytes(), plan{}.bytes())
	a, b := slowly(one), slowly(two)
	v, w := gzip.New(), gzip.New()
	for i := range min(len(one), len(two)) {
		if !v.Put(one[i]) || !w.Put(two[i]) {
			t.Fatalf("Put of byte %d = false", i)
		}
		wantTold(t, w, b.with(i+1), api.None)
		wantTold(t, v, a.with(i+1), api.None)
	}
	v.Put(1)
	w.Reset()
	wantQuiet(t, v, api.BadTail)
	follow(t, w, two, b)
	v.Reset()
	w.Reset()
	v.End()
	wantQuiet(t, v, api.Cut)
	follow(t, w, one, a)
}

// Theorem 3 needs it: while a field, or what was stored, goes on, there is no need of more room, behind Reset neither.
func TestRoomStaysTheSame(t *testing.T) {
	const half = api.MaxName / 2
	for name, x := range map[string]struct {
		ahead []byte
		b     byte
	}{
		"extra":   {append(plan{flags: 4}.header()[:10], 0, 4), 1},
		"name":    {plan{flags: 8}.header()[:10], 'n'},
		"comment": {plan{flags: 16}.header()[:10], 'c'},
		"stored":  {slices.Concat(plan{}.header(), []byte{1, 0xff, 0xff, 0, 0}), 's'},
		"zeros":   {abc(), 0},
	} {
		w := gzip.New()
		for range 2 {
			feed(w, x.ahead)
			if n := testing.AllocsPerRun(1, func() { // which is done once ahead of being looked at
				for range half {
					if !w.Put(x.b) {
						t.Fatalf("%s: Put = false", name)
					}
					w.Next()
				}
			}); n != 0 {
				t.Errorf("%s: %v times there was need of more room", name, n)
			}
			w.Reset()
		}
	}
}

// Likewise: a name that is too long needs no more room than a comment, which is not kept.
func TestRoomOfTooLongAName(t *testing.T) {
	var times [2]float64
	for i, flags := range []byte{8, 16} {
		b := slices.Concat(plan{flags: flags}.header()[:10], []byte(strings.Repeat("x", 257)))
		times[i] = testing.AllocsPerRun(5, func() { feed(gzip.New(), b) })
	}
	if times[0] != times[1] {
		t.Errorf("room was made %v times for a name, %v times for a comment", times[0], times[1])
	}
}

// Likewise: a member needs no window of its own.
func TestRoomOfMembers(t *testing.T) {
	w := gzip.New()
	var ahead, behind runtime.MemStats
	runtime.ReadMemStats(&ahead)
	const many = 200
	for range many {
		feed(w, one())
	}
	runtime.ReadMemStats(&behind)
	if n := (behind.TotalAlloc - ahead.TotalAlloc) / many; n > api.MaxWindow/2 {
		t.Errorf("%d bytes of room for a member", n)
	}
}
