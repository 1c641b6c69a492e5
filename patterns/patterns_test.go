package patterns_test

import (
	"bytes"
	"fmt"
	"math"
	"math/rand"
	"slices"
	"strings"
	"testing"

	"winkle/api"
	"winkle/patterns"
)

// list makes patterns of texts, each in memory of its own with spare room.
func list(texts ...string) [][]byte {
	ps := make([][]byte, 0, len(texts)+3)
	for _, s := range texts {
		ps = append(ps, append(make([]byte, 0, len(s)+5), s...))
	}
	return ps
}

// numbered makes n patterns of some length, no two of which have the same bytes: the number stands in the first one.
func numbered(n, length int) [][]byte {
	ps := make([][]byte, n)
	for i := range ps {
		ps[i] = bytes.Repeat([]byte{byte(200)}, length)
		ps[i][0] = byte(i)
	}
	return ps
}

// unlike makes 64 patterns of 32 bytes, of which each is one byte again and again, so that they have nothing in common.
func unlike() [][]byte {
	ps := make([][]byte, 64)
	for i := range ps {
		ps[i] = bytes.Repeat([]byte{byte(4 * i)}, 32)
	}
	return ps
}

func build(t *testing.T, ps [][]byte) *patterns.Auto {
	t.Helper()
	a, e := patterns.Build(ps)
	if e != api.OK || a == nil {
		t.Fatalf("Build(%q) = %v, %d", ps, a, int(e))
	}
	return a
}

// slow is the chapter's words: the states' words as texts, and all else found by looking through all of them.
type slow struct {
	texts []string
	words []string
}

func slowBuild(ps [][]byte) slow {
	s := slow{words: []string{""}}
	for _, p := range ps {
		s.texts = append(s.texts, string(p))
		for n := 1; n <= len(p); n++ {
			if !slices.Contains(s.words, string(p[:n])) {
				s.words = append(s.words, string(p[:n]))
			}
		}
	}
	return s
}

// longestEnd tells the state with the longest word that is an end of a text, of those with fewer bytes than below.
func (s slow) longestEnd(text string, below int) int {
	found := 0
	for i, w := range s.words {
		if len(w) < below && len(w) > len(s.words[found]) && strings.HasSuffix(text, w) {
			found = i
		}
	}
	return found
}

func (s slow) next(state int, b byte) int {
	if state < 0 || state >= len(s.words) {
		return 0
	}
	return s.longestEnd(s.words[state]+string([]byte{b}), math.MaxInt)
}

func (s slow) fail(state int) int {
	return s.longestEnd(s.words[state], len(s.words[state]))
}

// outs tells the patterns that are an end of a text.
func (s slow) outs(text string) []int {
	var numbers []int
	for i, p := range s.texts {
		if strings.HasSuffix(text, p) {
			numbers = append(numbers, i)
		}
	}
	return numbers
}

func slowCheck(ps [][]byte) api.Errno {
	if len(ps) < 1 || len(ps) > 64 {
		return api.ErrCount
	}
	for i, p := range ps {
		if len(p) == 0 {
			return api.ErrShort
		}
		if len(p) > 32 {
			return api.ErrLong
		}
		for _, q := range ps[:i] {
			if string(p) == string(q) {
				return api.ErrTwice
			}
		}
	}
	return api.OK
}

// hold holds a whole machine against the slow one.
func hold(t *testing.T, ps [][]byte) {
	t.Helper()
	a, s := build(t, ps), slowBuild(ps)
	longest := 0
	for _, p := range ps {
		longest = max(longest, len(p))
	}
	if a.Patterns() != len(ps) || a.Longest() != longest || a.States() != len(s.words) {
		t.Fatalf("of %q: %d patterns, longest %d, %d states, not %d, %d, %d", ps, a.Patterns(), a.Longest(), a.States(), len(ps), longest, len(s.words))
	}
	for state, word := range s.words {
		if got := string(a.Word(state)); got != word {
			t.Fatalf("of %q: Word(%d) = %q, not %q", ps, state, got, word)
		}
		if got := a.Depth(state); got != len(word) {
			t.Fatalf("of %q: Depth(%d) = %d, not %d", ps, state, got, len(word))
		}
		if got := a.Fail(state); got != s.fail(state) {
			t.Fatalf("of %q: Fail(%d) = %d, not %d", ps, state, got, s.fail(state))
		}
		if got := a.Out(state); !slices.Equal(got, s.outs(word)) {
			t.Fatalf("of %q: Out(%d) = %v, not %v", ps, state, got, s.outs(word))
		}
	}
}

// holdNext holds Next of every state with every byte against the slow one.
func holdNext(t *testing.T, ps [][]byte) {
	t.Helper()
	a, s := build(t, ps), slowBuild(ps)
	for state := range s.words {
		for b := range 256 {
			if got, want := a.Next(state, byte(b)), s.next(state, byte(b)); got != want {
				t.Fatalf("of %q: Next(%d, %d) = %d, not %d", ps, state, b, got, want)
			}
		}
	}
}

// sets are patterns of many shapes.
func sets() map[string][][]byte {
	again := make([]string, 32)
	back := make([]string, 32)
	for i := range again {
		again[i] = strings.Repeat("a", i+1)
		back[i] = strings.Repeat("a", 32-i)
	}
	return map[string][][]byte{
		"the chapter's":           list("he", "she", "his", "hers"),
		"one byte":                list("a"),
		"one pattern":             list("abcab"),
		"one of 32":               numbered(1, 32),
		"nothing in common":       list("abc", "def", "ghi"),
		"begin alike":             list("abcd", "abce", "abx"),
		"a beginning, behind":     list("abcd", "ab"),
		"a beginning, ahead":      list("ab", "abcd"),
		"an end, behind":          list("abcd", "cd"),
		"an end, ahead":           list("cd", "abcd"),
		"a middle, behind":        list("abcd", "bc"),
		"a middle, ahead":         list("bc", "abcd"),
		"all of these":            list("abcd", "cd", "bc", "ab", "d", "bcd"),
		"ends, the shorter first": list("d", "cd", "bcd", "abcd"),
		"ends, the longer first":  list("abcd", "bcd", "cd", "d"),
		"the bytes 0 and 255":     list("\x00", "\xff", "\x00\xff", "\xff\x00\x00", "\x00\x00", "\xff\xff"),
		"one byte again":          list(again...),
		"one byte again, back":    list(back...),
		"two by two":              list("abababab", "babababa", "abab", "ba"),
		"chains of ends":          list("aaaab", "aaab", "ab", "b", "aab", "aaaa"),
		"no text of runes":        list("\xc3\xa4", "\xa4", "\xc3", "\xa4\xc3\xa4"),
		"63":                      numbered(63, 3),
		"64":                      numbered(64, 3),
	}
}

// anyPatterns makes patterns that Check takes, of few letters, so that they have much in common.
func anyPatterns(r *rand.Rand) [][]byte {
	count, length, letters := 1+r.Intn(12), 1+r.Intn(8), 1+r.Intn(3)
	if r.Intn(10) == 0 {
		count, length = 1+r.Intn(64), 1+r.Intn(32)
	}
	var ps [][]byte
	for range count {
		p := make([]byte, 1+r.Intn(length))
		for i := range p {
			p[i] = []byte{0, 'a', 255}[r.Intn(letters)]
		}
		if !slices.ContainsFunc(ps, func(q []byte) bool { return bytes.Equal(p, q) }) {
			ps = append(ps, p)
		}
	}
	return ps
}

// The chapter's first example.
func TestMachineExample(t *testing.T) {
	a := build(t, list("he", "she", "his", "hers"))
	words := []string{"", "h", "he", "s", "sh", "she", "hi", "his", "her", "hers"}
	for state, word := range words {
		if got := string(a.Word(state)); got != word {
			t.Errorf("Word(%d) = %q, not %q", state, got, word)
		}
	}
	for _, c := range []struct {
		name      string
		got, want int
	}{
		{"States", a.States(), 10},
		{"Longest", a.Longest(), 4},
		{"Patterns", a.Patterns(), 4},
		{"Next(5, r)", a.Next(5, 'r'), 8},
		{"Next(4, i)", a.Next(4, 'i'), 6},
		{"Fail(5)", a.Fail(5), 2},
		{"Depth(9)", a.Depth(9), 4},
		{"Next(77, h)", a.Next(77, 'h'), 0},
	} {
		if c.got != c.want {
			t.Errorf("%s = %d, not %d", c.name, c.got, c.want)
		}
	}
	if got := a.Out(5); !slices.Equal(got, []int{0, 1}) {
		t.Errorf("Out(5) = %v", got)
	}
	if got := a.Out(9); !slices.Equal(got, []int{3}) {
		t.Errorf("Out(9) = %v", got)
	}
}

// checkCase is some patterns, and what Check says of them.
type checkCase struct {
	name string
	ps   [][]byte
	want api.Errno
}

func checkCases() []checkCase {
	long, other := strings.Repeat("x", 33), strings.Repeat("y", 33)
	last := append(numbered(63, 2), []byte{0, 200})
	return []checkCase{
		{"the chapter's, none", list(), api.ErrCount},
		{"the chapter's, an empty one", list("a", ""), api.ErrShort},
		{"the chapter's, twice", list("a", "b", "a"), api.ErrTwice},

		{"nil", nil, api.ErrCount},
		{"an empty list", [][]byte{}, api.ErrCount},
		{"1", numbered(1, 1), api.OK},
		{"63", numbered(63, 1), api.OK},
		{"64", numbered(64, 1), api.OK},
		{"65", numbered(65, 1), api.ErrCount},
		{"200", numbered(200, 1), api.ErrCount},
		{"64 of 32 bytes", numbered(64, 32), api.OK},
		{"65 of 32 bytes", numbered(65, 32), api.ErrCount},

		{"0 bytes, nil", [][]byte{nil}, api.ErrShort},
		{"0 bytes, empty", [][]byte{{}}, api.ErrShort},
		{"1 byte", list("x"), api.OK},
		{"31 bytes", list(long[:31]), api.OK},
		{"32 bytes", list(long[:32]), api.OK},
		{"33 bytes", list(long), api.ErrLong},
		{"1000 bytes", list(strings.Repeat("x", 1000)), api.ErrLong},
		{"31, 32 and 1 of one byte", list(long[:31], long[:32], "x"), api.OK},
		{"an empty one first", list("", "a"), api.ErrShort},
		{"a nil one in the middle", [][]byte{{1}, nil, {2}}, api.ErrShort},
		{"a long one first", list(long, "a"), api.ErrLong},
		{"a long one last", list("a", "b", long), api.ErrLong},

		{"twice, side by side", list("a", "b", "b", "c"), api.ErrTwice},
		{"twice, apart", list("a", "b", "c", "b", "d"), api.ErrTwice},
		{"twice, first and last", list("a", "b", "c", "a"), api.ErrTwice},
		{"twice, first and last of 64", last, api.ErrTwice},
		{"three times", list("a", "a", "a"), api.ErrTwice},
		{"twice, 32 bytes", list(long[:32], long[:32]), api.ErrTwice},
		{"twice, a byte 0", list("\x00", "\x00"), api.ErrTwice},
		{"not twice: a beginning", list("ab", "a"), api.OK},
		{"not twice: the other case", list("a", "A"), api.OK},
		{"not twice: the last byte", list("ab", "ac"), api.OK},
		{"not twice: a byte 0 more", list("a", "a\x00"), api.OK},

		{"an empty one twice", list("", ""), api.ErrShort},
		{"nil and an empty one", [][]byte{nil, {}}, api.ErrShort},
		{"a long one twice", list(long, long), api.ErrLong},
		{"an empty one behind a long one", list(long, ""), api.ErrLong},
		{"an empty one ahead of a long one", list("", long), api.ErrShort},
		{"two long ones and an empty one", list(long, other, ""), api.ErrLong},
		{"twice, then an empty one", list("a", "a", ""), api.ErrTwice},
		{"an empty one, then twice", list("a", "", "a"), api.ErrShort},
		{"twice, then a long one", list("a", "a", long), api.ErrTwice},
		{"a long one, then twice", list("a", long, "a"), api.ErrLong},
		{"twice, an empty one, a long one", list("b", "b", "", long), api.ErrTwice},
		{"a long one, an empty one, twice", list("b", long, "", "b"), api.ErrLong},
		{"an empty one, a long one, twice", list("b", "", long, "b"), api.ErrShort},
	}
}

// with65 are the patterns, and as many others as make them 65, ahead of them or behind them.
func with65(ps [][]byte, ahead bool) [][]byte {
	others := numbered(65, 2)[:65-len(ps)]
	if ahead {
		return slices.Concat(others, ps)
	}
	return slices.Concat(ps, others)
}

// P6.1: of several errors the first pattern's, of that one's the first.
func TestCheck(t *testing.T) {
	for _, c := range checkCases() {
		if got := patterns.Check(c.ps); got != c.want {
			t.Errorf("%s: Check = %d, not %d", c.name, int(got), int(c.want))
		}
		if len(c.ps) > 65 {
			continue
		}
		for _, ahead := range []bool{false, true} {
			if got := patterns.Check(with65(c.ps, ahead)); got != api.ErrCount {
				t.Errorf("%s, with others that make 65: Check = %d", c.name, int(got))
			}
		}
	}
}

// P6.1: in each order of some patterns, good ones and bad ones.
func TestCheckAnyOrder(t *testing.T) {
	r := rand.New(rand.NewSource(61))
	long := strings.Repeat("l", 33)
	seen := map[api.Errno]int{}
	for range 4000 {
		ps := list("", "", long, long, "a", "a", "b", "c")
		r.Shuffle(len(ps), func(i, j int) { ps[i], ps[j] = ps[j], ps[i] })
		ps = ps[:r.Intn(len(ps)+1)]
		got := patterns.Check(ps)
		if want := slowCheck(ps); got != want {
			t.Fatalf("Check(%q) = %d, not %d", ps, int(got), int(want))
		}
		seen[got]++
	}
	for _, e := range []api.Errno{api.OK, api.ErrCount, api.ErrShort, api.ErrLong, api.ErrTwice} {
		if seen[e] == 0 {
			t.Errorf("the error %d never came", int(e))
		}
	}
}

// P6.2: Build's error is Check's, and there is no machine beside it.
func TestBuildErrors(t *testing.T) {
	for _, c := range checkCases() {
		a, e := patterns.Build(c.ps)
		if e != c.want || (a != nil) != (c.want == api.OK) {
			t.Errorf("%s: Build = %v, %d, not the error %d", c.name, a, int(e), int(c.want))
		}
		if len(c.ps) > 65 {
			continue
		}
		for _, ahead := range []bool{false, true} {
			if a, e := patterns.Build(with65(c.ps, ahead)); a != nil || e != api.ErrCount {
				t.Errorf("%s, with others that make 65: Build = %v, %d", c.name, a, int(e))
			}
		}
	}
}

// P6.2: how many patterns and states there are, and how long the longest one is.
func TestCounts(t *testing.T) {
	for _, c := range []struct {
		ps                        [][]byte
		patterns, longest, states int
	}{
		{list("a"), 1, 1, 2},
		{list("abc"), 1, 3, 4},
		{list("aaa"), 1, 3, 4},
		{list("abcd", "abce"), 2, 4, 6},
		{list("abcd", "ab"), 2, 4, 5},
		{list("ab", "abcd"), 2, 4, 5},
		{list("abcd", "cd"), 2, 4, 7},
		{list("cd", "abcd"), 2, 4, 7},
		{list("abcd", "bc"), 2, 4, 7},
		{list("a", "b", "c"), 3, 1, 4},
		{numbered(64, 1), 64, 1, 65},
		{numbered(64, 32), 64, 32, 2049},
		{unlike(), 64, 32, 2049},
	} {
		a := build(t, c.ps)
		if a.Patterns() != c.patterns || a.Longest() != c.longest || a.States() != c.states {
			t.Errorf("of %q: %d patterns, longest %d, %d states", c.ps, a.Patterns(), a.Longest(), a.States())
		}
	}
}

// P6.2, P6.4: the states have their numbers in the order in which the patterns are gone through.
func TestStatesInOrder(t *testing.T) {
	for _, c := range []struct {
		ps    [][]byte
		words []string
	}{
		{list("ab", "ac", "b", "abd", "a"), []string{"", "a", "ab", "ac", "b", "abd"}},
		{list("b", "a", "ab", "ba"), []string{"", "b", "a", "ab", "ba"}},
		{list("xyz", "x", "xa", "yz"), []string{"", "x", "xy", "xyz", "xa", "y", "yz"}},
		{list("\xff\x00", "\x00\xff"), []string{"", "\xff", "\xff\x00", "\x00", "\x00\xff"}},
	} {
		a := build(t, c.ps)
		if a.States() != len(c.words) {
			t.Errorf("of %q: %d states, not %d", c.ps, a.States(), len(c.words))
		}
		for state, word := range c.words {
			if got := string(a.Word(state)); got != word {
				t.Errorf("of %q: Word(%d) = %q, not %q", c.ps, state, got, word)
			}
		}
	}
}

// P6.2, P6.4: every state of patterns of many shapes.
func TestStates(t *testing.T) {
	for name, ps := range sets() {
		t.Run(name, func(t *testing.T) { hold(t, ps) })
	}
	for name, ps := range map[string][][]byte{"begin unlike": numbered(64, 32), "unlike": unlike()} {
		t.Run(name, func(t *testing.T) { hold(t, ps) })
	}
	r := rand.New(rand.NewSource(64))
	for range 1000 {
		hold(t, anyPatterns(r))
	}
}

// P6.3: every state of patterns of many shapes, with every byte.
func TestNext(t *testing.T) {
	for name, ps := range sets() {
		t.Run(name, func(t *testing.T) { holdNext(t, ps) })
	}
	r := rand.New(rand.NewSource(63))
	for range 30 {
		if ps := anyPatterns(r); len(ps) < 13 {
			holdNext(t, ps)
		}
	}
}

// P6.4: none, one and several patterns, rising whichever of them is the shorter one.
func TestOut(t *testing.T) {
	for _, c := range []struct {
		ps   [][]byte
		text string
		want []int
	}{
		{list("ab"), "", nil},
		{list("ab"), "a", nil},
		{list("ab"), "ab", []int{0}},
		{list("abc", "b"), "ab", []int{1}},
		{list("ab", "b"), "ab", []int{0, 1}},
		{list("b", "ab"), "ab", []int{0, 1}},
		{list("cd", "abcd", "d", "bcd", "x"), "abcd", []int{0, 1, 2, 3}},
		{list("x", "d", "abcd", "cd"), "abcd", []int{1, 2, 3}},
		{list("abcd", "x", "y", "d"), "abcd", []int{0, 3}},
		{append(numbered(63, 2), []byte{200}), "\x05\xc8", []int{5, 63}},
		{append([][]byte{{200}}, numbered(63, 2)...), "\x3e\xc8", []int{0, 63}},
	} {
		a, state := build(t, c.ps), 0
		for _, b := range []byte(c.text) {
			state = a.Next(state, b)
		}
		if got := a.Out(state); !slices.Equal(got, c.want) {
			t.Errorf("of %q: Out behind %q = %v, not %v", c.ps, c.text, got, c.want)
		}
	}
}

// P6.3, P6.4: numbers that are no state's.
func TestNoState(t *testing.T) {
	for name, ps := range sets() {
		a := build(t, ps)
		n := a.States()
		for _, state := range []int{math.MinInt, math.MinInt + 1, -n, -2, -1, n, n + 1, 2 * n, 1 << 32, math.MaxInt - 1, math.MaxInt} {
			for b := range 256 {
				if got := a.Next(state, byte(b)); got != 0 {
					t.Errorf("%s: Next(%d, %d) = %d", name, state, b, got)
				}
			}
			if a.Fail(state) != 0 || a.Depth(state) != 0 || len(a.Word(state)) != 0 || len(a.Out(state)) != 0 {
				t.Errorf("%s: of %d: %d, %d, %q, %v", name, state, a.Fail(state), a.Depth(state), a.Word(state), a.Out(state))
			}
		}
		if a.Fail(0) != 0 || a.Depth(0) != 0 || len(a.Word(0)) != 0 || len(a.Out(0)) != 0 {
			t.Errorf("%s: of state 0: %d, %d, %q, %v", name, a.Fail(0), a.Depth(0), a.Word(0), a.Out(0))
		}
	}
}

// goThrough goes through a text, and holds each state against what the text ends with.
func goThrough(t *testing.T, ps [][]byte, text []byte) {
	t.Helper()
	a, s := build(t, ps), slowBuild(ps)
	state := 0
	for i, b := range text {
		state = a.Next(state, b)
		ahead := string(text[max(0, i-40) : i+1])
		if got, want := string(a.Word(state)), s.words[s.longestEnd(ahead, math.MaxInt)]; got != want {
			t.Fatalf("of %q: behind %q stands %q, not %q", ps, ahead, got, want)
		}
		if got, want := a.Out(state), s.outs(ahead); !slices.Equal(got, want) {
			t.Fatalf("of %q: behind %q end %v, not %v", ps, ahead, got, want)
		}
	}
}

// P6.5: behind any text, the longest end that is a beginning of a pattern, and just the patterns that are an end.
func TestTexts(t *testing.T) {
	r := rand.New(rand.NewSource(65))
	for name, ps := range sets() {
		t.Run(name, func(t *testing.T) {
			var text []byte
			for len(text) < 300 {
				p := ps[r.Intn(len(ps))]
				switch r.Intn(4) {
				case 0:
					text = append(text, byte(r.Intn(256)))
				case 1:
					text = append(text, p[r.Intn(len(p))])
				case 2:
					text = append(text, p[:r.Intn(len(p)+1)]...)
				default:
					text = append(text, p[r.Intn(len(p)):]...)
				}
			}
			goThrough(t, ps, text)
		})
	}
	for range 500 {
		text := make([]byte, 60)
		for i := range text {
			text[i] = []byte{0, 'a', 255, 'b'}[r.Intn(4)]
		}
		goThrough(t, anyPatterns(r), text)
	}
	goThrough(t, list("she", "he", "hers"), []byte("ushers and she hehers shhe"))
}

// Rule 1: a nil machine answers zero values.
func TestNilMachine(t *testing.T) {
	var a *patterns.Auto
	if a.Patterns() != 0 || a.Longest() != 0 || a.States() != 0 {
		t.Error(a.Patterns(), a.Longest(), a.States())
	}
	for _, state := range []int{math.MinInt, -1, 0, 1, 77, math.MaxInt} {
		if a.Next(state, 'a') != 0 || a.Fail(state) != 0 || a.Depth(state) != 0 || len(a.Word(state)) != 0 || len(a.Out(state)) != 0 {
			t.Error(state, a.Next(state, 'a'), a.Fail(state), a.Depth(state), a.Word(state), a.Out(state))
		}
	}
}

// tell writes down all that a machine answers.
func tell(a *patterns.Auto) string {
	var s strings.Builder
	fmt.Fprintln(&s, a.Patterns(), a.Longest(), a.States())
	for state := -1; state <= a.States(); state++ {
		fmt.Fprintln(&s, a.Fail(state), a.Depth(state), a.Word(state), a.Out(state))
		for b := range 256 {
			fmt.Fprint(&s, a.Next(state, byte(b)), " ")
		}
	}
	return s.String()
}

// whole is a list of patterns with all its spare room, and that of each pattern.
func whole(ps [][]byte) string {
	return fmt.Sprint(len(ps), cap(ps), func() (out [][]byte) {
		for _, p := range ps[:cap(ps)] {
			out = append(out, p[:cap(p)])
		}
		return out
	}())
}

// Rule 3: the patterns that were handed in are as they were, their spare room, too.
func TestArgumentsAsTheyWere(t *testing.T) {
	cases := checkCases()
	for name, ps := range sets() {
		cases = append(cases, checkCase{name, ps, api.OK})
	}
	for _, c := range cases {
		was := whole(c.ps)
		patterns.Check(c.ps)
		if a, e := patterns.Build(c.ps); e == api.OK {
			tell(a)
		}
		if whole(c.ps) != was {
			t.Errorf("%s: the patterns were changed", c.name)
		}
	}
}

// Rule 3: the patterns may be changed behind Build without the machine changing.
func TestArgumentsNotKept(t *testing.T) {
	for name, ps := range sets() {
		a := build(t, ps)
		was := tell(a)
		for i, p := range ps {
			p = p[:cap(p)]
			for j := range p {
				p[j] ^= 0x55
			}
			ps[i] = nil
		}
		if tell(a) != was {
			t.Errorf("%s: the machine changed with the patterns", name)
		}
	}
}

// Rule 3: what was answered may be changed, its spare room too, without another answer changing.
func TestAnswersAreNewMemory(t *testing.T) {
	for name, ps := range sets() {
		a := build(t, ps)
		was := tell(a)
		for state := range a.States() {
			word, again := a.Word(state), a.Word(state)
			kept := string(again)
			for i := range word[:cap(word)] {
				word[:cap(word)][i] ^= 0x55
			}
			if string(again) != kept {
				t.Errorf("%s: two words of state %d share memory", name, state)
			}
			out, more := a.Out(state), a.Out(state)
			keptOut := slices.Clone(more)
			for i := range out[:cap(out)] {
				out[:cap(out)][i] = -7
			}
			if !slices.Equal(more, keptOut) {
				t.Errorf("%s: two outs of state %d share memory", name, state)
			}
		}
		if tell(a) != was {
			t.Errorf("%s: the machine changed with its answers", name)
		}
	}
}

// Rule 4: two machines of one list answer the same, whatever was asked of them ahead, and another machine changes neither.
func TestTwoMachines(t *testing.T) {
	for name, ps := range sets() {
		a := build(t, ps)
		was := tell(a)
		other := build(t, list("zz", "a\x00", "he"))
		otherWas := tell(other)
		b := build(t, ps)
		if tell(b) != was || tell(a) != was || tell(other) != otherWas {
			t.Errorf("%s: two machines of one list are not alike", name)
		}
	}
}
