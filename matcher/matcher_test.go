package matcher_test

import (
	"bytes"
	"math"
	"math/rand"
	"reflect"
	"slices"
	"testing"

	"winkle/api"
	"winkle/matcher"
	"winkle/patterns"
)

const greatestAt = 1 << 62

// list makes patterns of texts.
func list(texts ...string) [][]byte {
	var ps [][]byte
	for _, s := range texts {
		ps = append(ps, []byte(s))
	}
	return ps
}

func ushers() [][]byte { return list("he", "she", "his", "hers") }

// nested makes n patterns a, aa, aaa and so on: with each a more of them end at once.
func nested(n int) [][]byte {
	var ps [][]byte
	for i := 1; i <= n; i++ {
		ps = append(ps, bytes.Repeat([]byte("a"), i))
	}
	return ps
}

// many makes 64 patterns, the longest of which has 32 bytes.
func many() [][]byte {
	ps := nested(32)
	for i := range 32 {
		ps = append(ps, []byte{byte(8 * i), 'a', 'a'})
	}
	return ps
}

func sets() map[string][][]byte {
	return map[string][][]byte{
		"one byte":       list("a"),
		"the byte 0":     list("\x00"),
		"the byte 255":   list("\xff\xff"),
		"one pattern":    list("abab"),
		"ushers":         ushers(),
		"other order":    list("hers", "his", "she", "he", "e"),
		"nested":         nested(5),
		"not of UTF-8":   list("\xc3", "\xa4", "\xc3\xa4", "ä!"),
		"as many as may": many(),
	}
}

func build(t *testing.T, ps [][]byte) *patterns.Auto {
	t.Helper()
	a, e := patterns.Build(ps)
	if e != api.OK {
		t.Fatalf("Build(%q): error %d", ps, int(e))
	}
	return a
}

func start(t *testing.T, a *patterns.Auto) *matcher.Matcher {
	t.Helper()
	m, e := matcher.New(a)
	if m == nil || e != api.OK {
		t.Fatalf("New = %v, %d", m, int(e))
	}
	return m
}

// want tells it if a matcher is not where it should be.
func want(t *testing.T, what string, m *matcher.Matcher, state, at int) {
	t.Helper()
	if m.State() != state || m.At() != at {
		t.Errorf("%s: state %d at %d, not %d at %d", what, m.State(), m.At(), state, at)
	}
}

// ends are the patterns that stand at the end of a text.
func ends(ps [][]byte, text []byte) []int {
	var numbers []int
	for i, p := range ps {
		if bytes.HasSuffix(text, p) {
			numbers = append(numbers, i)
		}
	}
	return numbers
}

// slowHits looks for each pattern behind each byte.
func slowHits(ps [][]byte, text []byte) []api.Hit {
	var hits []api.Hit
	for end := 1; end <= len(text); end++ {
		for _, pattern := range ends(ps, text[:end]) {
			hits = append(hits, api.Hit{Pattern: pattern, End: end})
		}
	}
	return hits
}

func sameHits(a, b []api.Hit) bool {
	return slices.EqualFunc(a, b, func(x, y api.Hit) bool {
		return x.Pattern == y.Pattern && x.End == y.End && len(x.Path) == 0 && len(y.Path) == 0
	})
}

// anyPatterns makes some patterns of few letters, no two alike, so that many hang together.
func anyPatterns(r *rand.Rand) [][]byte {
	var ps [][]byte
	letters := 1 + r.Intn(3)
	for range 1 + r.Intn(8) {
		p := anyText(r, 1+r.Intn(5), letters)
		if !slices.ContainsFunc(ps, func(q []byte) bool { return bytes.Equal(p, q) }) {
			ps = append(ps, p)
		}
	}
	return ps
}

// anyText makes a text of a few letters: a 0, a 255, and those of ordinary texts.
func anyText(r *rand.Rand, length, letters int) []byte {
	text := make([]byte, length)
	for i := range text {
		text[i] = "a\x00\xffb"[r.Intn(letters)]
	}
	return text
}

// P7.1: without a machine there is no matcher.
func TestNewOfNoMachine(t *testing.T) {
	if m, e := matcher.New(nil); m != nil || e != api.ErrNil {
		t.Errorf("New(nil) = %v, %d", m, int(e))
	}
	none, refused := patterns.Build(nil)
	if m, e := matcher.New(none); m != nil || e != api.ErrNil {
		t.Errorf("New of a machine that was refused with %d = %v, %d", int(refused), m, int(e))
	}
}

// P7.1: a new matcher is at the state 0, and at 0.
func TestNewIsAtTheBeginning(t *testing.T) {
	for name, ps := range sets() {
		want(t, name, start(t, build(t, ps)), 0, 0)
	}
}

// P7.1: from every state, with every byte, Step is patterns.Next and patterns.Out.
func TestStepFromEveryState(t *testing.T) {
	for name, ps := range sets() {
		a := build(t, ps)
		m := start(t, a)
		for state := range a.States() {
			for b := range 256 {
				if !m.Set(state, 41) {
					t.Fatalf("%s: Set(%d, 41) = false", name, state)
				}
				next := a.Next(state, byte(b))
				if out := m.Step(byte(b)); !slices.Equal(out, a.Out(next)) {
					t.Fatalf("%s: Step(%d) at state %d = %v, not %v", name, b, state, out, a.Out(next))
				}
				if m.State() != next || m.At() != 42 {
					t.Fatalf("%s: behind Step(%d) at state %d: %d at %d, not %d at 42", name, b, state, m.State(), m.At(), next)
				}
			}
		}
	}
}

// P7.1: no, one and several outs.
func TestStepHowManyOuts(t *testing.T) {
	m := start(t, build(t, nested(3)))
	cases := []struct {
		b    byte
		outs []int
	}{
		{'x', nil}, {'a', []int{0}}, {'a', []int{0, 1}}, {'a', []int{0, 1, 2}}, {'a', []int{0, 1, 2}}, {'b', nil}, {'a', []int{0}},
	}
	for i, c := range cases {
		if out := m.Step(c.b); !slices.Equal(out, c.outs) {
			t.Errorf("step %d: %v, not %v", i, out, c.outs)
		}
		if m.At() != i+1 {
			t.Errorf("step %d: at %d", i, m.At())
		}
	}
}

// P7.1: the outs are told in the order of the patterns' numbers, whichever of them is longer.
func TestStepOrder(t *testing.T) {
	m := start(t, build(t, list("c", "abc", "bc")))
	m.Step('a')
	m.Step('b')
	if out := m.Step('c'); !slices.Equal(out, []int{0, 1, 2}) {
		t.Error(out)
	}
}

// P7.1: at stays at 2^62, while the state goes on.
func TestAtStays(t *testing.T) {
	m := start(t, build(t, ushers()))
	steps := []struct {
		b     byte
		state int
		outs  []int
	}{
		{'s', 3, nil}, {'h', 4, nil}, {'e', 5, []int{0, 1}}, {'r', 8, nil}, {'s', 9, []int{3}}, {'x', 0, nil}, {'h', 1, nil}, {'e', 2, []int{0}},
	}
	for _, from := range []int{greatestAt - 3, greatestAt - 1, greatestAt} {
		if !m.Set(0, from) {
			t.Fatalf("Set(0, %d) = false", from)
		}
		want(t, "behind Set", m, 0, from)
		at := from
		for _, s := range steps {
			out := m.Step(s.b)
			if at < greatestAt {
				at++
			}
			if !slices.Equal(out, s.outs) {
				t.Errorf("from %d, %c: %v, not %v", from, s.b, out, s.outs)
			}
			want(t, "behind a step", m, s.state, at)
		}
	}
}

// P7.2: State and At tell what Step and Set did, and asking changes nothing.
func TestStateAndAt(t *testing.T) {
	ps := ushers()
	a := build(t, ps)
	m := start(t, a)
	state := 0
	for i, b := range []byte("ushers, he said, and shis") {
		m.Step(b)
		state = a.Next(state, b)
		for range 3 {
			want(t, "within a text", m, state, i+1)
		}
	}
}

// P7.2: Set takes just the states that there are, and just the places from 0 to 2^62.
func TestSet(t *testing.T) {
	for name, ps := range sets() {
		a := build(t, ps)
		n := a.States()
		states := map[int]bool{math.MinInt: false, -1: false, 0: true, 1: true, n - 1: true, n: false, n + 1: false, math.MaxInt: false}
		places := map[int]bool{math.MinInt: false, -1: false, 0: true, 7: true, greatestAt - 1: true, greatestAt: true, greatestAt + 1: false, math.MaxInt: false}
		m := start(t, a)
		for state, mayState := range states {
			for at, mayAt := range places {
				if !m.Set(n/2, 5) {
					t.Fatalf("%s: Set(%d, 5) = false", name, n/2)
				}
				may := mayState && mayAt
				if got := m.Set(state, at); got != may {
					t.Errorf("%s: Set(%d, %d) = %v", name, state, at, got)
				}
				if may {
					want(t, name, m, state, at)
				} else {
					want(t, name, m, n/2, 5)
				}
			}
		}
	}
}

// P7.2: a Set that answered false has no trace in what comes behind it.
func TestSetThatIsRefused(t *testing.T) {
	m := start(t, build(t, ushers()))
	m.Step('s')
	m.Step('h')
	for _, w := range [][2]int{{99, 0}, {-1, 1}, {0, -1}, {1, greatestAt + 1}, {99, -1}, {10, 0}} {
		if m.Set(w[0], w[1]) {
			t.Errorf("Set(%d, %d) = true", w[0], w[1])
		}
		want(t, "behind a Set that is refused", m, 4, 2)
	}
	if out := m.Step('e'); !slices.Equal(out, []int{0, 1}) {
		t.Error(out)
	}
	want(t, "one step on", m, 5, 3)
}

// P7.2: Reset is as behind New.
func TestReset(t *testing.T) {
	m := start(t, build(t, ushers()))
	m.Reset()
	want(t, "behind New", m, 0, 0)
	m.Step('s')
	m.Step('h')
	m.Reset()
	want(t, "behind Step", m, 0, 0)
	if out := m.Step('e'); len(out) != 0 {
		t.Errorf("an e behind Reset: %v", out)
	}
	m.Set(9, greatestAt)
	m.Reset()
	want(t, "behind Set", m, 0, 0)
	m.Reset()
	want(t, "behind Reset", m, 0, 0)
	for i, outs := range [][]int{nil, nil, {0, 1}} {
		if out := m.Step("she"[i]); !slices.Equal(out, outs) {
			t.Errorf("byte %d behind Reset: %v, not %v", i, out, outs)
		}
	}
	if !m.Set(9, 1) {
		t.Error("the machine is gone behind Reset")
	}
}

func mosts(hits int) []int {
	return []int{math.MinInt, -1, 0, 1, 2, hits - 1, hits, hits + 1, math.MaxInt}
}

// P7.3: of no machine none, and these are all.
func TestAllOfNoMachine(t *testing.T) {
	for _, text := range [][]byte{nil, {}, []byte("ushers")} {
		for _, most := range mosts(3) {
			if hits, all := matcher.All(nil, text, most); len(hits) != 0 || !all {
				t.Errorf("All(nil, %q, %d) = %v, %v", text, most, hits, all)
			}
		}
	}
}

// holdAll holds All, with every most that matters, against the slow way.
func holdAll(t *testing.T, ps [][]byte, text []byte) {
	t.Helper()
	a := build(t, ps)
	hits := slowHits(ps, text)
	for _, most := range mosts(len(hits)) {
		first := hits[:min(max(most, 0), len(hits))]
		got, all := matcher.All(a, text, most)
		if !sameHits(got, first) || all != (len(first) == len(hits)) {
			t.Fatalf("patterns %q: All(%q, %d) = %v, %v, not %v of %d", ps, text, most, got, all, first, len(hits))
		}
	}
}

// P7.3: without a hit there is none, and these are all, whatever most is.
func TestAllWithoutAHit(t *testing.T) {
	a := build(t, ushers())
	for _, text := range [][]byte{nil, {}, []byte("u"), []byte("shxehihrs"), []byte("HE SHE"), bytes.Repeat([]byte("sh"), 500)} {
		for _, most := range mosts(0) {
			if hits, all := matcher.All(a, text, most); len(hits) != 0 || !all {
				t.Errorf("All(%q, %d) = %v, %v", text, most, hits, all)
			}
		}
	}
}

// P7.3: the first most hits, in order, and whether these are all; cut also between two hits behind one byte.
func TestAllMost(t *testing.T) {
	a := build(t, nested(3))
	// behind the bytes 1 to 4 there are 1, 2, 3 and 3 hits, and behind the last one there is one
	text := []byte("aaaaba")
	hits := []api.Hit{
		{Pattern: 0, End: 1}, {Pattern: 0, End: 2}, {Pattern: 1, End: 2},
		{Pattern: 0, End: 3}, {Pattern: 1, End: 3}, {Pattern: 2, End: 3},
		{Pattern: 0, End: 4}, {Pattern: 1, End: 4}, {Pattern: 2, End: 4},
		{Pattern: 0, End: 6},
	}
	for most := -2; most <= len(hits)+2; most++ {
		first := hits[:min(max(most, 0), len(hits))]
		got, all := matcher.All(a, text, most)
		if !reflect.DeepEqual(append([]api.Hit{}, got...), append([]api.Hit{}, first...)) || all != (most >= len(hits)) {
			t.Errorf("All(%q, %d) = %v, %v, not %v", text, most, got, all, first)
		}
	}
	holdAll(t, nested(3), text)
}

// P7.3: bytes without a hit behind the last one that may be told change nothing; one more hit does.
func TestAllJustAsMany(t *testing.T) {
	a := build(t, list("ab"))
	if hits, all := matcher.All(a, []byte("xabxxxx"), 1); len(hits) != 1 || !all {
		t.Error(hits, all)
	}
	if hits, all := matcher.All(a, []byte("xabxxxxab"), 1); len(hits) != 1 || hits[0].End != 3 || all {
		t.Error(hits, all)
	}
	if hits, all := matcher.All(a, []byte("xab"), 0); len(hits) != 0 || all {
		t.Error(hits, all)
	}
}

// P7.3: a hit's fields.
func TestAllFields(t *testing.T) {
	hits, all := matcher.All(build(t, list("zz", "\x00\xff")), []byte{9, 0, 255, 0, 255}, math.MaxInt)
	if len(hits) != 2 || !all {
		t.Fatal(hits, all)
	}
	for i, end := range []int{3, 5} {
		if hits[i].Pattern != 1 || len(hits[i].Path) != 0 || hits[i].End != end {
			t.Errorf("hit %d: %v", i, hits[i])
		}
	}
}

// P7.3: more hits than a scan may tell are told here.
func TestAllOfMany(t *testing.T) {
	ps := nested(32)
	hits, all := matcher.All(build(t, ps), bytes.Repeat([]byte("a"), 4000), math.MaxInt)
	if n := 4000*32 - 31*32/2; len(hits) != n || !all {
		t.Error(len(hits), n, all)
	}
}

// P7.3, P7.4: a hit is told just where the pattern stands in the text, ending there.
func TestAllOfAnyTexts(t *testing.T) {
	r := rand.New(rand.NewSource(7))
	for range 1500 {
		holdAll(t, anyPatterns(r), anyText(r, r.Intn(40), 1+r.Intn(4)))
	}
	for name, ps := range sets() {
		text := []byte(name)
		for range 60 {
			text = append(text, ps[r.Intn(len(ps))]...)
			if r.Intn(2) == 0 {
				text = append(text, byte(r.Intn(256)))
			}
		}
		holdAll(t, ps, text)
	}
	holdAll(t, ushers(), []byte("ushers and she, hehers, shhe, hishis, hhers"))
}

// P7.4: Step by Step, the patterns that the bytes so far end with are told, however the bytes come.
func TestStepsOfAnyTexts(t *testing.T) {
	r := rand.New(rand.NewSource(8))
	for range 400 {
		ps := anyPatterns(r)
		m := start(t, build(t, ps))
		text := anyText(r, 60, 1+r.Intn(4))
		for i, b := range text {
			if out := m.Step(b); !slices.Equal(out, ends(ps, text[:i+1])) {
				t.Fatalf("patterns %q: behind %q: %v", ps, text[:i+1], out)
			}
			if m.At() != i+1 {
				t.Fatalf("behind %q: at %d", text[:i+1], m.At())
			}
		}
	}
}

// goOnAlike goes on with two matchers by the same bytes.
func goOnAlike(t *testing.T, m, n *matcher.Matcher, text []byte) {
	t.Helper()
	for i, b := range text {
		one, other := m.Step(b), n.Step(b)
		if !slices.Equal(one, other) || m.State() != n.State() || m.At() != n.At() {
			t.Fatalf("byte %d of %q: %v, %d, %d and %v, %d, %d", i, text, one, m.State(), m.At(), other, n.State(), n.At())
		}
	}
}

// P7.4: a matcher that is Set to another one's State and At goes on as that one does.
func TestSetToAnother(t *testing.T) {
	r := rand.New(rand.NewSource(9))
	for range 300 {
		a := build(t, anyPatterns(r))
		m, n := start(t, a), start(t, a)
		for _, b := range anyText(r, r.Intn(20), 4) {
			m.Step(b)
		}
		for _, b := range anyText(r, r.Intn(20), 4) {
			n.Step(b)
		}
		if !n.Set(m.State(), m.At()) {
			t.Fatalf("Set(%d, %d) = false", m.State(), m.At())
		}
		goOnAlike(t, m, n, anyText(r, 30, 4))
	}
}

// P7.4: so, too, at every state, and where at stays.
func TestSetToAnotherAtEveryState(t *testing.T) {
	text := []byte("hershishe\x00\xffaaaabab")
	for _, ps := range sets() {
		a := build(t, ps)
		for state := range a.States() {
			for _, at := range []int{0, 3, greatestAt - 5, greatestAt} {
				m, n := start(t, a), start(t, a)
				if !m.Set(state, at) || !n.Set(m.State(), m.At()) {
					t.Fatalf("patterns %q: Set(%d, %d) = false", ps, state, at)
				}
				goOnAlike(t, m, n, text)
			}
		}
	}
}

// Rule 1: a nil matcher answers zero values, and does nothing.
func TestNilMatcher(t *testing.T) {
	var m *matcher.Matcher
	for b := range 256 {
		if out := m.Step(byte(b)); len(out) != 0 {
			t.Errorf("Step(%d) = %v", b, out)
		}
	}
	for _, state := range []int{math.MinInt, -1, 0, 1, math.MaxInt} {
		for _, at := range []int{math.MinInt, -1, 0, 1, greatestAt, math.MaxInt} {
			if m.Set(state, at) {
				t.Errorf("Set(%d, %d) = true", state, at)
			}
		}
	}
	m.Reset()
	want(t, "nil", m, 0, 0)
}

// Rule 3: the text is as it was, its spare room, too.
func TestTextAsItWas(t *testing.T) {
	a := build(t, ushers())
	room := []byte("ushers and more room")
	kept := slices.Clone(room)
	for _, n := range []int{0, 3, 6, len(room)} {
		for _, most := range mosts(3) {
			matcher.All(a, room[:n], most)
			if !bytes.Equal(room, kept) {
				t.Fatalf("All(%q, %d) made %q of it", kept[:n], most, room)
			}
		}
	}
}

// Rule 3: hits are found in what stands in the text, not in its spare room.
func TestSpareRoomIsNoText(t *testing.T) {
	if hits, all := matcher.All(build(t, ushers()), []byte("ushers")[:3], 0); len(hits) != 0 || !all {
		t.Error(hits, all)
	}
}

// Rule 3: a text may be changed behind All without the hits changing.
func TestTextNotKept(t *testing.T) {
	text := []byte("ushers")
	hits, _ := matcher.All(build(t, ushers()), text, 9)
	clear(text)
	if !sameHits(hits, slowHits(ushers(), []byte("ushers"))) {
		t.Error(hits)
	}
}

// Rule 3: what Step answered may be changed, its spare room too, without another answer changing.
func TestStepAnswersAreNewMemory(t *testing.T) {
	a := build(t, nested(5))
	m, n := start(t, a), start(t, a)
	var outs [][]int
	for range 9 {
		spoiled := n.Step('a')
		spoiled = spoiled[:cap(spoiled)]
		for i := range spoiled {
			spoiled[i] = -7
		}
		outs = append(outs, m.Step('a'))
	}
	for i, out := range outs {
		if !slices.Equal(out, []int{0, 1, 2, 3, 4}[:min(i+1, 5)]) {
			t.Errorf("step %d: %v", i, out)
		}
	}
	last := outs[8]
	for i := range last[:cap(last)] {
		last[:cap(last)][i] = -7
	}
	if out := m.Step('a'); !slices.Equal(out, []int{0, 1, 2, 3, 4}) || !slices.Equal(outs[7], out) {
		t.Error(out, outs[7])
	}
}

// Rule 3: so, too, what All answered.
func TestAllAnswersAreNewMemory(t *testing.T) {
	a := build(t, ushers())
	one, _ := matcher.All(a, []byte("ushers"), 9)
	two, _ := matcher.All(a, []byte("ushers"), 9)
	one = one[:cap(one)]
	for i := range one {
		one[i] = api.Hit{Pattern: -7, Path: []int{1}, End: -7}
	}
	three, _ := matcher.All(a, []byte("ushers"), 9)
	for _, hits := range [][]api.Hit{two, three} {
		if !sameHits(hits, slowHits(ushers(), []byte("ushers"))) {
			t.Error(hits)
		}
	}
}

// Rule 4: two matchers of one machine, gone on with by turns, have nothing in common; nor has All with them.
func TestTwoMatchersByTurns(t *testing.T) {
	ps := ushers()
	a := build(t, ps)
	m, n := start(t, a), start(t, a)
	one, other := []byte("ushers and shershe"), []byte("hishersheushis, he")
	for i := range one {
		if out := m.Step(one[i]); !slices.Equal(out, ends(ps, one[:i+1])) {
			t.Errorf("behind %q: %v", one[:i+1], out)
		}
		matcher.All(a, other, i)
		if out := n.Step(other[i]); !slices.Equal(out, ends(ps, other[:i+1])) {
			t.Errorf("behind %q: %v", other[:i+1], out)
		}
		if m.At() != i+1 || n.At() != i+1 {
			t.Errorf("behind %d bytes: at %d and %d", i+1, m.At(), n.At())
		}
		if i == 9 {
			three := start(t, a)
			three.Set(9, 77)
			three.Reset()
		}
	}
	state := n.State()
	m.Reset()
	m.Set(3, 4)
	want(t, "the one that was Set", m, 3, 4)
	want(t, "the other one", n, state, len(other))
}

// Rule 4: going on leaves the machine as it was.
func TestMachineAsItWas(t *testing.T) {
	ps := ushers()
	a, b := build(t, ps), build(t, ps)
	m := start(t, a)
	for i := range 2000 {
		m.Step("ushers his"[i%10])
	}
	m.Set(5, 5)
	m.Reset()
	matcher.All(a, []byte("ushers"), 2)
	if !reflect.DeepEqual(a, b) {
		t.Error("the machine has changed")
	}
}

// The chapter's examples.
func TestExamples(t *testing.T) {
	p := build(t, ushers())
	hits, all := matcher.All(p, []byte("ushers"), 9)
	if !sameHits(hits, []api.Hit{{Pattern: 0, End: 4}, {Pattern: 1, End: 4}, {Pattern: 3, End: 6}}) || !all {
		t.Error(hits, all)
	}
	hits, all = matcher.All(p, []byte("ushers"), 2)
	if !sameHits(hits, []api.Hit{{Pattern: 0, End: 4}, {Pattern: 1, End: 4}}) || all {
		t.Error(hits, all)
	}
	m := start(t, p)
	m.Step('s')
	m.Step('h')
	if out := m.Step('e'); !slices.Equal(out, []int{0, 1}) {
		t.Error(out)
	}
	want(t, "behind she", m, 5, 3)
	if m.Set(99, 0) {
		t.Error("Set(99, 0) = true")
	}
	want(t, "behind Set(99, 0)", m, 5, 3)
	if !m.Set(1, 7) {
		t.Error("Set(1, 7) = false")
	}
	if out := m.Step('e'); !slices.Equal(out, []int{0}) || m.At() != 8 {
		t.Error(out, m.At())
	}
	if _, e := matcher.New(nil); e != api.ErrNil {
		t.Error(int(e))
	}
}
