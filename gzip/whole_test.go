package gzip_test

import (
	"bytes"
	stdgzip "compress/gzip"
	"math"
	"slices"
	"strings"
	"testing"
	"time"

	"winkle/api"
	"winkle/gzip"
)

// The chapter's examples.
func TestExamples(t *testing.T) {
	wantWhole(t, abc(), 9, []string{"abc"}, api.None)
	wantWhole(t, slices.Concat(abc(), abc(), zeros(2)), 9, []string{"abc", "abc"}, api.None)
	wantWhole(t, abc(), 2, []string{"ab"}, api.TooMuch)
	wantWhole(t, nil, 9, nil, api.Cut)
	wantWhole(t, []byte{}, 9, nil, api.Cut)
	wantWhole(t, []byte{0x1f, 0x8c}, 9, nil, api.BadMagic)
	wantWhole(t, append(abc(), 1), 9, []string{"abc"}, api.BadTail)
	wantWhole(t, []byte{0x1f, 0x8b, 7}, 9, nil, api.BadMethod)
	wantWhole(t, change(abc(), 22, 1), 9, []string{"abc"}, api.BadSize)
}

// P15.3: the member that was begun is told from its header's last byte on.
func TestTheMemberThatWasBegun(t *testing.T) {
	for _, ahead := range [][]byte{nil, abc()} {
		members, _ := slowly(ahead).within(9)
		for n := range 10 {
			why := api.Cut
			if n == 0 && ahead != nil {
				why = api.None
			}
			wantWhole(t, slices.Concat(ahead, abc()[:n]), 9, members, why)
		}
		for n, begun := range map[int]string{10: "", 11: "", 12: "a", 13: "ab", 14: "abc", 15: "abc", 22: "abc"} {
			wantWhole(t, slices.Concat(ahead, abc()[:n]), 9, append(slices.Clone(members), begun), api.Cut)
		}
	}
}

// mosts are the edges of most, where so many bytes are given in all.
func mosts(n int) []int {
	return []int{math.MinInt, -2, -1, 0, 1, 2, n / 2, n - 2, n - 1, n, n + 1, n + 2, math.MaxInt}
}

// P15.3: most over one member and several ones, at the end of one and the beginning of the next.
func TestMost(t *testing.T) {
	p := full()
	p.data, p.deflated = strings.Repeat("a", 300), packed(shortCodes("1"), strings.Repeat("0", 300), "1")
	for _, file := range [][]byte{
		nil, abc(), one(), plan{}.bytes(), p.bytes(), slices.Concat(abc(), abc()), slices.Concat(abc(), plan{}.bytes(), plan{}.bytes(), one()), slices.Concat(plan{}.bytes(), p.bytes(), zeros(9)), slices.Concat(p.bytes(), one(), abc()),
	} {
		for _, tail := range [][]byte{nil, {0}, {1}, {0x1f}, {0x1f, 0x8b, 8, 0xff}} {
			b := slices.Concat(file, tail)
			a := slowly(b)
			for _, most := range append(mosts(a.total()), 3, 4, 5, 6) {
				members, why := a.within(most)
				wantWhole(t, b, most, members, why)
			}
		}
	}
}

// P15.3: each most over three members, by hand; a member that was begun is told, an empty one, too.
func TestMostByHand(t *testing.T) {
	file := slices.Concat(abc(), plan{}.bytes(), one())
	for most, members := range [][]string{{""}, {"a"}, {"ab"}, {"abc", "", ""}, {"abc", "", "o"}, {"abc", "", "on"}} {
		wantWhole(t, file, most, members, api.TooMuch)
	}
	for _, most := range []int{6, 7, 99} {
		wantWhole(t, file, most, []string{"abc", "", "one"}, api.None)
	}
	wantWhole(t, file, -1, []string{""}, api.TooMuch)
	wantWhole(t, plan{}.bytes(), -1, []string{""}, api.None)
	wantWhole(t, plan{}.bytes(), 0, []string{""}, api.None)
	wantWhole(t, abc()[:11], 0, []string{""}, api.Cut)
	wantWhole(t, abc()[:12], 0, []string{""}, api.TooMuch)
}

// P15.3: most met where the bytes are bad, or cut off, behind it: only one byte more is TooMuch.
func TestMostAheadOfWhatIsBad(t *testing.T) {
	for _, x := range []struct {
		b   []byte
		why api.Reason
	}{
		{change(abc(), 15, 0), api.BadSum}, {change(abc(), 22, 1), api.BadSize}, {abc()[:14], api.Cut}, {abc()[:20], api.Cut}, {append(abc(), 9), api.BadTail}, {slices.Concat(abc(), []byte{0x1f, 0}), api.BadMagic},
		{slices.Concat(plan{}.header(), []byte{0, 3, 0, 0xfc, 0xff, 'a', 'b', 'c', 7}), api.BadBlock},
	} {
		for most, members := range map[int]string{0: "", 1: "a", 2: "ab"} {
			wantWhole(t, x.b, most, []string{members}, api.TooMuch)
		}
		wantWhole(t, x.b, 3, []string{"abc"}, x.why)
		wantWhole(t, x.b, 4, []string{"abc"}, x.why)
	}
	bad := slices.Concat(plan{}.header(), packed(shortCodes("0"), strings.Repeat("0", pad("")), "001", "111"))
	n := pad("") + 2
	wantWhole(t, bad, n, []string{strings.Repeat("a", n)}, api.BadBlock)
	wantWhole(t, bad, n-1, []string{strings.Repeat("a", n-1)}, api.TooMuch)
}

// Theorem 4 needs it: what gives much more than may be is left as soon as that is known.
func TestMuchOutOfLittle(t *testing.T) {
	text := strings.Repeat("a", 1<<22)
	p := plan{data: text, deflated: deflated(text, 9)}
	wantWhole(t, p.bytes(), 1000, []string{text[:1000]}, api.TooMuch)
	wantWhole(t, p.bytes(), 1<<22-1, []string{text[1:]}, api.TooMuch)
	wantWhole(t, p.bytes(), 1<<22, []string{text}, api.None)
}

// written writes files by the library.
func written(t *testing.T, level int, heads []stdgzip.Header, texts []string) []byte {
	t.Helper()
	var b bytes.Buffer
	for i, text := range texts {
		w, err := stdgzip.NewWriterLevel(&b, level)
		if err != nil {
			t.Fatal(err)
		}
		w.Header = heads[i]
		w.Write([]byte(text))
		if i%2 == 1 {
			w.Flush()
			w.Write([]byte(text))
		}
		if err := w.Close(); err != nil {
			t.Fatal(err)
		}
	}
	return b.Bytes()
}

// P15.4: what the library writes is given back, with the names.
func TestWrittenByTheLibrary(t *testing.T) {
	list := []string{"", "x", "xy", strings.Repeat("words and words, ", 500), noise(3000), noise(40000)}
	when := time.Unix(1700000000, 0)
	heads := []stdgzip.Header{{OS: 255}, {Name: "a.txt", OS: 3}, {Comment: "a comment", ModTime: when}, {Name: strings.Repeat("n", 256), Comment: strings.Repeat("c", 256)}, {Extra: []byte(noise(1024)), Name: "e"}, {Extra: []byte{0}, Name: "caf\u00e9", Comment: "\u00ff", ModTime: when}}
	for _, level := range []int{stdgzip.NoCompression, stdgzip.BestSpeed, stdgzip.DefaultCompression, stdgzip.BestCompression, stdgzip.HuffmanOnly} {
		b := written(t, level, heads, list)
		members := []string{list[0], list[1] + list[1], list[2], list[3] + list[3], list[4], list[5] + list[5]}
		a := want(t, b, len(b), api.None, members...)
		var names []string
		for _, e := range a.events {
			if e.Kind == api.EventOpen {
				names = append(names, e.Text)
			}
		}
		if !slices.Equal(names, []string{"", "a.txt", "", strings.Repeat("n", 256), "e", "caf\xe9"}) {
			t.Errorf("names %q", names)
		}
	}
}

// Rule 3: what Whole answered may be changed, its spare room, too, without changing another list of it, another answer, or the bytes.
func TestAnswersAreTheirOwn(t *testing.T) {
	file := slices.Concat(abc(), one(), plan{}.bytes(), full().bytes())
	kept := slices.Clone(file)
	first, _ := gzip.Whole(file, 99)
	second, _ := gzip.Whole(file, 99)
	for i, m := range first {
		for j := range m[:cap(m)] {
			m[:cap(m)][j] = '!'
		}
		first[i] = append(m, "!!!!!!!!"...)
		for j, other := range first[i+1:] {
			if want := []string{"one", "", "xy"}[i+j]; string(other) != want {
				t.Errorf("member %d became %q", i+j+1, other)
			}
		}
	}
	clear(first[:cap(first)])
	if got := texts(second); !slices.Equal(got, []string{"abc", "one", "", "xy"}) {
		t.Errorf("another answer became %q", got)
	}
	if !slices.Equal(file, kept) {
		t.Error("the bytes were changed")
	}
	clear(file)
	if got := texts(second); !slices.Equal(got, []string{"abc", "one", "", "xy"}) {
		t.Errorf("with the bytes the answer became %q", got)
	}
}

// Rule 3: a name that was told stays as it is, whatever comes behind it.
func TestNamesStay(t *testing.T) {
	w := gzip.New()
	header := plan{flags: 8, name: "first"}.header()
	feed(w, header[:len(header)-1])
	w.Put(0)
	e, _ := w.Next()
	feed(w, slices.Concat(stored(""), zeros(8), plan{flags: 8, name: "other"}.bytes()))
	w.Reset()
	feed(w, plan{flags: 8, name: "third"}.bytes())
	if e != opened("first") {
		t.Errorf("the event became %v", e)
	}
}
