package zip_test

import (
	"fmt"
	"math/rand"
	"runtime"
	"slices"
	"strings"
	"testing"

	"winkle/api"
	"winkle/zip"
)

// P17.1: where nothing was put in, nothing is known.
func TestNew(t *testing.T) {
	w := zip.New()
	if w == nil {
		t.Fatal("New = nil")
	}
	wantQuiet(t, w, api.None)
	if !w.Put('P') {
		t.Error("Put = false")
	}
	wantQuiet(t, w, api.None)
	w.Reset()
	w.End()
	wantOver(t, w, api.Cut)
}

// P17.1: an event's other fields are zero ones, its Node KindFile, its Text the name.
func TestFieldsOfEvents(t *testing.T) {
	w := zip.New()
	b := file("n", "x")
	feed(w, b[:headLen])
	w.Put(b[headLen])
	if e, ok := w.Next(); e != (api.Event{Kind: api.EventOpen, Node: api.KindFile, Text: "n"}) || !ok {
		t.Errorf("Next = %v %t", e, ok)
	}
	w.Put('x')
	if e, ok := w.Next(); e != (api.Event{Kind: api.EventByte, Byte: 'x'}) || !ok {
		t.Errorf("Next = %v %t", e, ok)
	}
	if e, ok := w.Next(); e != (api.Event{Kind: api.EventClose}) || !ok {
		t.Errorf("Next = %v %t", e, ok)
	}
}

// P17.1: Next where nothing is known, at each byte, again and again; Put of any byte while Next would tell an event is refused, End then does nothing, and nothing has changed.
func TestPutAndEndWhileNextWouldTell(t *testing.T) {
	b := all()
	a := slowly(b)
	w := zip.New()
	for i, v := range b {
		if !w.Put(v) {
			t.Fatalf("Put of byte %d = false", i)
		}
		for _, e := range a.with(i + 1) {
			for c := range 256 {
				if w.Put(byte(c)) {
					t.Fatalf("Put(%d) ahead of %v = true", c, e)
				}
			}
			w.End()
			w.End()
			if got, ok := w.Next(); got != e || !ok {
				t.Fatalf("Next = %v %t, not %v", got, ok, e)
			}
		}
		wantQuiet(t, w, api.None)
	}
	w.End()
	wantOver(t, w, api.None)
}

// stops are archives that are stopped by their last byte.
func stops() map[string]api.Reason {
	text := "some words, some words"
	ahead := plan{method: 8, name: "a", data: text, packed: squeezed(text, 9)}
	behind := ahead
	behind.flags = 8
	list := map[string]api.Reason{
		"Q": api.BadMagic, "PL": api.BadMagic, "PK\x07": api.BadMagic, "PK\x03\x03": api.BadMagic, "PK\x06\x08": api.BadMagic,
		string(set(abc().header()[:headLen], nameLenAt, 2, 257)):                                    api.BadName,
		string(set(abc().header()[:headLen], extraLenAt, 2, 1025)):                                  api.BadName,
		string(plan{name: "a", flags: 8}.header()):                                                  api.Lost,
		string(plan{name: "a", flags: 9, method: 8}.header()):                                       api.Lost,
		string(plan{name: "a", flags: 8, method: 9, extra: record(1, "x")}.header()):                api.Lost,
		string(set(abc().header(), sizeAt, 4, 4)):                                                   api.BadSize,
		string(set(plan{}.header(), sumAt, 4, 1)):                                                   api.BadSum,
		string(set(abc().bytes(), sumAt, 4, 1)):                                                     api.BadSum,
		string(set(ahead.header(), packedAt, 4, 0)):                                                 api.BadSize,
		string(set(ahead.bytes(), packedAt, 4, 99)):                                                 api.BadSize,
		string(set(ahead.bytes(), packedAt, 4, uint64(len(ahead.packed)-1))[:len(ahead.bytes())-1]): api.BadSize,
		string(set(ahead.bytes(), sizeAt, 4, 1)):                                                    api.BadSize,
		string(set(ahead.bytes(), sumAt, 4, 1)):                                                     api.BadSum,
		string(archive(behind.header(), behind.body(), []byte("abcd"))):                             api.BadSum,
		string(archive(behind.header(), behind.body(), []byte("PK\x07\x08PK\x07\x08"))):             api.BadSum,
		string(archive(behind.header(), behind.body(), behind.trailer()[:4], []byte("12345678"))):   api.BadSize,
	}
	for _, x := range badData() {
		p := plan{method: 8, name: "a", data: x.given, packed: x.b}
		list[string(p.bytes())] = x.why
		p.flags = 8
		list[string(archive(p.header(), p.body()))] = x.why
	}
	both := map[string]api.Reason{}
	for b, why := range list {
		both[b] = why
		both[string(file("first", "1"))+b] = why
		both[string(plan{flags: 1, data: "x"}.bytes())+b] = why
	}
	return both
}

// P17.1: when it is stopped, every byte is refused, and nothing changes; ahead of the byte that stops it Reason is None.
func TestPutWhenStopped(t *testing.T) {
	for b, why := range stops() {
		w := zip.New()
		if n := feed(w, []byte(b[:len(b)-1])); n != len(b)-1 {
			t.Fatalf("%x: %d bytes were taken", b, n)
		}
		wantQuiet(t, w, api.None)
		if n := feed(w, []byte(b[len(b)-1:])); n != 1 {
			t.Fatalf("%x: Put of the byte that stops it = false", b)
		}
		wantQuiet(t, w, why)
		for v := range 256 {
			if w.Put(byte(v)) {
				t.Fatalf("%x: Put(%d) = true", b, v)
			}
		}
		w.End()
		wantOver(t, w, why)
		hold(t, []byte(b))
	}
}

// ended puts bytes in, ends them, and holds why it is stopped; then nothing may be put in.
func ended(t *testing.T, b []byte, why api.Reason) {
	t.Helper()
	w := zip.New()
	if n := feed(w, b); n != len(b) {
		t.Fatalf("%x: %d bytes were taken", short(b), n)
	}
	wantQuiet(t, w, api.None)
	w.End()
	wantQuiet(t, w, why)
	for v := range 256 {
		if w.Put(byte(v)) {
			t.Fatalf("%x: Put(%d) behind End = true", short(b), v)
		}
	}
	w.End()
	wantOver(t, w, why)
}

// P17.2: the bytes ended at every place of an archive, and with none put in: Cut, as long as the entries are not over, behind an entry, too.
func TestEndAtEveryPlace(t *testing.T) {
	for _, magic := range overs() {
		entries := all()[:len(all())-12]
		b := archive(entries, []byte(magic), []byte("anything"))
		for n := range len(b) + 1 {
			why := api.Cut
			if n >= len(entries)+4 {
				why = api.None
			}
			ended(t, b[:n], why)
			want(t, b[:n], n, why, slowly(b[:n]).entries()...)
		}
	}
	for _, p := range append(ways("n", "abc"), ways("", "")...) {
		b := p.bytes()
		for n := range len(b) + 1 {
			ended(t, b[:n], api.Cut)
		}
		ended(t, archive(b, over), api.None)
	}
	ended(t, nil, api.Cut)
	ended(t, over, api.None)
}

// P17.2: an End that did nothing, as an event was to be told, does not count.
func TestEndTooSoon(t *testing.T) {
	w := zip.New()
	b := archive(file("a", "x"), over)
	feed(w, b[:headLen])
	w.Put(b[headLen])
	w.End()
	wantTold(t, w, []api.Event{opened("a")}, api.None)
	if !w.Put('x') {
		t.Fatal("Put = false")
	}
	w.End()
	if e, ok := w.Next(); e != given('x') || !ok {
		t.Fatalf("Next = %v %t", e, ok)
	}
	w.End()
	wantTold(t, w, []api.Event{closed}, api.None)
	if n := feed(w, over[:3]); n != 3 {
		t.Fatal("Put = false")
	}
	w.End()
	wantOver(t, w, api.Cut)
}

// P17.1: behind the archive's end every byte is taken, and tells nothing.
func TestPutBehindTheEnd(t *testing.T) {
	for _, magic := range overs() {
		w := zip.New()
		feed(w, archive(file("a", "abc"), []byte(magic)))
		for i := range 3 * 256 * 256 {
			if !w.Put(byte(i / 3)) {
				t.Fatal("Put = false")
			}
			if e, ok := w.Next(); e != (api.Event{}) || ok || w.Reason() != api.None {
				t.Fatalf("Next = %v %t, Reason = %d", e, ok, w.Reason())
			}
		}
		for _, v := range all() {
			if !w.Put(v) {
				t.Fatal("Put = false")
			}
			wantQuiet(t, w, api.None)
		}
		w.End()
		wantOver(t, w, api.None)
		wantShut(t, w)
	}
}

// begun are walkers' beginnings, of each kind, behind which Reset is tried.
func begun() map[string]func(w *zip.Walker) {
	put := func(b []byte) func(w *zip.Walker) {
		return func(w *zip.Walker) { feed(w, b) }
	}
	untold := func(b []byte, told int) func(w *zip.Walker) {
		return func(w *zip.Walker) {
			feed(w, b[:len(b)-1])
			w.Put(b[len(b)-1])
			for range told {
				w.Next()
			}
		}
	}
	list := map[string]func(w *zip.Walker){}
	for _, b := range [][]byte{
		archive(plan{name: "na", extra: record(9, "x") + record(1, noise(16)) + "xyz", data: "ab"}.bytes(), over, []byte("ab")),
		archive(plan{method: 8, flags: 8, name: "w", extra: record(1, ""), data: strings.Repeat("a", 20), packed: manyAs(20), wide: true, mark: true}.bytes(), plan{flags: 1, data: "abc"}.bytes()),
		plan{method: 8, name: "x", data: "abc", packed: squeezed("abc", 9)}.bytes(),
		set(set(plan{name: "na", extra: record(1, noise(16)), data: "ab"}.bytes(), packedAt, 4, 1<<32-1), sizeAt, 4, 1<<32-1),
	} {
		a := slowly(b)
		for n := range len(b) + 1 {
			name := fmt.Sprintf("behind %d bytes of %x", n, b)
			list[name] = put(b[:n])
			list[name+", ended"] = func(w *zip.Walker) {
				feed(w, b[:n])
				w.End()
			}
			for told := range a.with(n) {
				list[fmt.Sprintf("%s, behind %d events", name, told)] = untold(b[:n], told)
			}
		}
	}
	for b := range stops() {
		list[fmt.Sprintf("stopped by %x", b)] = put([]byte(b))
	}
	return list
}

// P17.2: behind Reset it is as behind New, whatever was done.
func TestReset(t *testing.T) {
	match := plan{method: 8, name: "m", packed: digits("110", "0000001", "00000", "0000000")}.bytes()
	files := [][]byte{nil, over, {0}, file("b", "b"), plan{method: 8, flags: 8, name: "d", data: "de", packed: squeezed("de", 9)}.bytes(), match, plan{method: 8, flags: 8, name: "w", extra: record(1, ""), data: "xyz", wide: true}.bytes()}
	for name, begin := range begun() {
		for _, b := range files {
			w := zip.New()
			begin(w)
			w.Reset()
			follow(t, w, b, slowly(b))
			w.Reset()
			w.Reset()
			follow(t, w, files[3], slowly(files[3]))
			if t.Failed() {
				t.Fatal(name)
			}
		}
	}
}

// Rule 1: a nil walker.
func TestNil(t *testing.T) {
	var w *zip.Walker
	for range 2 {
		for v := range 256 {
			if w.Put(byte(v)) {
				t.Errorf("Put(%d) = true", v)
			}
		}
		wantOver(t, w, api.None)
		w.End()
		w.Reset()
	}
}

// Rule 4: two walkers have nothing in common.
func TestTwoWalkersByTurns(t *testing.T) {
	one := all()
	var two []byte
	for _, p := range ways("another", "other words") {
		two = archive(two, p.bytes())
	}
	a, b := slowly(one), slowly(two)
	v, w := zip.New(), zip.New()
	for i := range min(len(one), len(two)) {
		if !v.Put(one[i]) || !w.Put(two[i]) {
			t.Fatalf("Put of byte %d = false", i)
		}
		wantTold(t, w, b.with(i+1), api.None)
		wantTold(t, v, a.with(i+1), api.None)
	}
	w.Reset()
	feed(w, []byte("x"))
	wantQuiet(t, w, api.BadMagic)
	v.Reset()
	wantQuiet(t, w, api.BadMagic)
	follow(t, v, two, b)
	w.Reset()
	wantShut(t, v)
	follow(t, w, one, a)
}

// Theorem 3 needs it: while something goes on, there is no need of more room, behind Reset neither.
func TestRoomStaysTheSame(t *testing.T) {
	long := plan{name: "n", data: noise(5000)}
	for name, ahead := range map[string][]byte{
		"a name":           set(plan{}.header(), nameLenAt, 2, 256),
		"an extra's bytes": archive(set(plan{}.header(), extraLenAt, 2, 1000), []byte(record(9, noise(900))[:4])),
		"wide bytes":       archive(set(plan{}.header(), extraLenAt, 2, 1000), []byte(record(1, noise(900))[:4])),
		"behind records":   archive(set(plan{}.header(), extraLenAt, 2, 1000), []byte(record(9, noise(9000))[:4])),
		"stored data":      long.header(),
		"stored blocks":    archive(set(plan{name: "n", method: 8}.header(), packedAt, 4, 9999), []byte{1, 0xff, 0xff, 0, 0}),
		"passed over":      plan{flags: 1, data: noise(5000)}.header(),
		"behind the end":   over,
	} {
		w := zip.New()
		for range 2 {
			feed(w, ahead)
			if n := testing.AllocsPerRun(1, func() { // which is done once ahead of being looked at
				for range 120 {
					if !w.Put('x') {
						t.Fatalf("%s: Put = false", name)
					}
					w.Next()
				}
			}); n != 0 {
				t.Errorf("%s: %v times there was need of more room", name, n)
			}
			w.Reset()
		}
	}
}

// Likewise: an entry needs no window of its own.
func TestRoomOfEntries(t *testing.T) {
	w := zip.New()
	var ahead, behind runtime.MemStats
	runtime.ReadMemStats(&ahead)
	const many = 200
	for range many {
		feed(w, plan{method: 8, name: "n", data: "abc"}.bytes())
	}
	runtime.ReadMemStats(&behind)
	if n := (behind.TotalAlloc - ahead.TotalAlloc) / many; n > api.MaxWindow/2 {
		t.Errorf("%d bytes of room for an entry", n)
	}
}

// pieces are what archives are put together from, at random.
func pieces(r *rand.Rand) []byte {
	data := noise(2000)[:[]int{0, 1, 2, 3, 255, 256, 1000}[r.Intn(7)]]
	p := plan{name: noise(260)[:[]int{0, 1, 5, 255, 256}[r.Intn(5)]], data: data, other: byte(r.Intn(256)), mark: r.Intn(2) == 0}
	for range r.Intn(4) {
		p.extra += record([]int{1, 1, 2, 0x5455}[r.Intn(4)], noise(40)[:[]int{0, 7, 8, 9, 16, 24}[r.Intn(6)]])
	}
	p.extra += noise(3)[:r.Intn(4)]
	p.wide = isWide(p.extra)
	switch r.Intn(6) {
	case 0:
		p.flags = 1
	case 1:
		p.method = 1 + r.Intn(7)
	case 2, 3:
		p.method, p.flags = 8, 8
	case 4:
		p.method = 8
	}
	if p.method == 8 && r.Intn(2) == 0 {
		p.packed = squeezed(data, 1+r.Intn(9))
	}
	return p.bytes()
}

// isWide tells whether an extra makes an entry wide.
func isWide(extra string) bool {
	h := head{}
	h.widen([]byte(extra))
	return h.wide
}

// P17.1: archives put together at random, whole, cut off, and changed at a few places.
func TestArchivesAtRandom(t *testing.T) {
	r := rand.New(rand.NewSource(17))
	for range 300 {
		var b []byte
		for range r.Intn(5) {
			b = archive(b, pieces(r))
		}
		b = archive(b, []byte(overs()[r.Intn(4)]))
		want(t, b, len(b), api.None, slowly(b).entries()...)
		hold(t, b[:r.Intn(len(b))])
		for range 5 {
			hold(t, change(b, r.Intn(len(b)), byte(r.Intn(256))))
			i := r.Intn(len(b))
			hold(t, slices.Delete(slices.Clone(b), i, i+1))
		}
	}
}
