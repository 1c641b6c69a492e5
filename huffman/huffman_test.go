package huffman_test

import (
	"fmt"
	"math"
	"math/rand"
	"reflect"
	"slices"
	"strings"
	"testing"

	"winkle/api"
	"winkle/bits"
	"winkle/huffman"
)

// same makes a list of n times a length.
func same(n, length int) []int { return slices.Repeat([]int{length}, n) }

// join lays lists one behind the other.
func join(lists ...[]int) []int { return slices.Concat(lists...) }

// ladder is 1, 2 and so on up to 15, and 15 again.
func ladder() []int {
	var lengths []int
	for length := 1; length <= 15; length++ {
		lengths = append(lengths, length)
	}
	return append(lengths, 15)
}

// fixed are the literal lengths of DEFLATE's fixed blocks.
func fixed() []int { return join(same(144, 8), same(112, 9), same(24, 7), same(8, 8)) }

// fullSets are full lengths of many kinds.
func fullSets() map[string][]int {
	down := ladder()
	slices.Reverse(down)
	return map[string][]int{
		"two":              {1, 1},
		"two, noughts":     {0, 1, 0, 0, 1, 0},
		"example":          {2, 1, 3, 3},
		"four":             {2, 2, 2, 2},
		"ladder":           ladder(),
		"ladder down":      down,
		"1 and 15 mingled": join([]int{15, 1, 15}, down[2:15]),
		"1 and only long":  join(same(64, 7), []int{1}),
		"distances":        same(32, 5),
		"fixed":            fixed(),
		"320 symbols":      join(same(128, 9), same(192, 8)),
		"320, noughts":     join(same(100, 0), same(32, 5), same(188, 0)),
		"320, ladder last": join(same(304, 0), ladder()),
	}
}

// loneSets are lengths of just one code.
func loneSets() map[string][]int {
	return map[string][]int{
		"alone":       {1},
		"first":       {1, 0, 0},
		"last":        {0, 1},
		"middle":      join(same(9, 0), []int{1}, same(9, 0)),
		"320 symbols": join(same(319, 0), []int{1}),
	}
}

// bareSets are lengths without a code.
func bareSets() map[string][]int {
	return map[string][]int{"nil": nil, "empty": {}, "one": {0}, "two": {0, 0}, "320": same(320, 0)}
}

// allSets are all lengths above.
func allSets() map[string][]int {
	all := map[string][]int{}
	for kind, sets := range map[string]map[string][]int{"full": fullSets(), "lone": loneSets(), "bare": bareSets()} {
		for name, lengths := range sets {
			all[kind+": "+name] = lengths
		}
	}
	return all
}

func table(t *testing.T, lengths []int) *huffman.Table {
	t.Helper()
	h, e := huffman.New(lengths)
	if h == nil || e != api.OK {
		t.Fatalf("New(%v) = %v, error %d", lengths, h, int(e))
	}
	return h
}

// slowSum is what P8.1 asks for, by its words.
func slowSum(lengths []int) (int, bool) {
	if len(lengths) > 320 {
		return 0, false
	}
	sum := 0
	for _, length := range lengths {
		if length < 0 || length > 15 {
			return 0, false
		}
		if length > 0 {
			sum += int(math.Pow(2, float64(15-length)))
		}
	}
	return sum, true
}

// slowError is what P8.2 asks for, by its words.
func slowError(lengths []int) api.Errno {
	sum, may := slowSum(lengths)
	var coded []int
	for _, length := range lengths {
		if length != 0 {
			coded = append(coded, length)
		}
	}
	switch {
	case !may:
		return api.ErrArg
	case sum > 32768:
		return api.ErrOver
	case sum < 32768 && len(coded) != 0 && !slices.Equal(coded, []int{1}):
		return api.ErrUnder
	}
	return api.OK
}

// slowFirst is the first code of a length, by the chapter's words.
func slowFirst(lengths []int, length int) int {
	if length == 1 {
		return 0
	}
	many := 0
	for _, l := range lengths {
		if l == length-1 {
			many++
		}
	}
	return 2 * (slowFirst(lengths, length-1) + many)
}

// slowCodes are the codes as digits 0 and 1, by the chapter's words; empty where there is none.
func slowCodes(lengths []int) []string {
	codes := make([]string, len(lengths))
	for length := 1; length <= 15; length++ {
		next := slowFirst(lengths, length)
		for symbol, l := range lengths {
			if l == length {
				codes[symbol] = fmt.Sprintf("%0*b", length, next)
				next++
			}
		}
	}
	return codes
}

// slowRead is what P8.4 asks for, by its words, of digits that are held.
func slowRead(codes []string, held string) (symbol, how int) {
	begins := false
	for s, c := range codes {
		if c != "" && strings.HasPrefix(held, c) {
			return s, huffman.Got
		}
		begins = begins || c != "" && strings.HasPrefix(c, held)
	}
	if begins {
		return 0, huffman.More
	}
	return 0, huffman.Bad
}

// holding makes a reader that holds just these digits, first one first: at most 64.
func holding(t *testing.T, digits string) *bits.Reader {
	t.Helper()
	r := bits.New()
	ahead := (8 - len(digits)%8) % 8
	for _, b := range pack(strings.Repeat("1", ahead) + digits) {
		if !r.Put(b) {
			t.Fatalf("a reader can't hold %q", digits)
		}
	}
	r.Take(ahead)
	left(t, "holding", r, digits)
	return r
}

// pack makes bytes of digits, the first one the lowest bit; noughts fill the last byte.
func pack(digits string) []byte {
	list := make([]byte, (len(digits)+7)/8)
	for i, d := range digits {
		if d == '1' {
			list[i/8] |= 1 << (i % 8)
		}
	}
	return list
}

// unpack makes digits of bytes.
func unpack(list []byte) string {
	var digits strings.Builder
	for _, b := range list {
		for i := range 8 {
			digits.WriteByte('0' + b>>i&1)
		}
	}
	return digits.String()
}

// left tells it if a reader does not hold just these digits.
func left(t *testing.T, what string, r *bits.Reader, digits string) {
	t.Helper()
	if r.Held() != len(digits) {
		t.Fatalf("%s: %d bits are held, not %q", what, r.Held(), digits)
	}
	other := *r // bits are taken of it, so that the reader itself stays as it is
	for i := range digits {
		if v, ok := other.Take(1); !ok || byte('0'+v) != digits[i] {
			t.Fatalf("%s: bit %d is wrong, of %q", what, i, digits)
		}
	}
}

// readOnce reads of a reader that holds these digits, held against the slow one; what is left must be the rest.
func readOnce(t *testing.T, h *huffman.Table, codes []string, digits string) {
	t.Helper()
	r := holding(t, digits)
	symbol, how := h.Read(r)
	wantSymbol, wantHow := slowRead(codes, digits)
	if symbol != wantSymbol || how != wantHow {
		t.Fatalf("Read of %q = %d, %d, not %d, %d", digits, symbol, how, wantSymbol, wantHow)
	}
	taken := 0
	if how == huffman.Got {
		taken = len(codes[symbol])
	}
	left(t, "behind Read", r, digits[taken:])
}

// anyFull makes full lengths by splitting codes, any one at a time, and mingles them with noughts.
func anyFull(dice *rand.Rand, codes, noughts int) []int {
	lengths := []int{1, 1}
	for len(lengths) < codes {
		i := dice.Intn(len(lengths))
		if dice.Intn(3) == 0 {
			i = len(lengths) - 1 // so that long codes come, too
		}
		if lengths[i] < 15 {
			lengths[i]++
			lengths = append(lengths, lengths[i])
		}
	}
	lengths = append(lengths, same(noughts, 0)...)
	dice.Shuffle(len(lengths), func(i, j int) { lengths[i], lengths[j] = lengths[j], lengths[i] })
	return lengths
}

// wantNew holds Kraft, New and Symbols against the slow ones.
func wantNew(t *testing.T, lengths []int) {
	t.Helper()
	wantSum, wantMay := slowSum(lengths)
	if sum, may := huffman.Kraft(lengths); sum != wantSum || may != wantMay {
		t.Errorf("Kraft(%v) = %d, %v, not %d, %v", lengths, sum, may, wantSum, wantMay)
	}
	want := slowError(lengths)
	h, e := huffman.New(lengths)
	if e != want || (h != nil) != (e == api.OK) {
		t.Errorf("New(%v) = %v, error %d, not %d", lengths, h, int(e), int(want))
	}
	if want == api.OK && h.Symbols() != len(lengths) {
		t.Errorf("New(%v): %d symbols", lengths, h.Symbols())
	}
}

// The chapter's first example.
func TestExampleNew(t *testing.T) {
	h := table(t, []int{2, 1, 3, 3})
	for symbol, want := range []string{"10", "0", "110", "111"} {
		code, n, ok := h.Code(symbol)
		if got := fmt.Sprintf("%0*b", n, code); got != want || n != len(want) || !ok {
			t.Errorf("Code(%d) = %s, %d, %v, not %s", symbol, got, n, ok, want)
		}
	}
	for _, c := range []struct {
		lengths []int
		want    api.Errno
	}{
		{[]int{1, 1, 1}, api.ErrOver},
		{[]int{1, 2}, api.ErrUnder},
		{[]int{0, 1}, api.OK},
		{nil, api.OK},
		{[]int{0, 0}, api.OK},
		{[]int{16}, api.ErrArg},
	} {
		if h, e := huffman.New(c.lengths); e != c.want || (h != nil) != (e == api.OK) {
			t.Errorf("New(%v) = %v, error %d, not %d", c.lengths, h, int(e), int(c.want))
		}
	}
}

// The chapter's second and third example.
func TestExampleRead(t *testing.T) {
	h, r := table(t, []int{2, 1, 3, 3}), bits.New()
	r.Put(0x1d)
	for _, want := range []int{0, 3, 1, 1, 1} {
		if symbol, how := h.Read(r); symbol != want || how != huffman.Got {
			t.Errorf("Read = %d, %d, not %d", symbol, how, want)
		}
	}
	if symbol, how := h.Read(r); symbol != 0 || how != huffman.More {
		t.Errorf("Read of no bits = %d, %d", symbol, how)
	}
	lone, r := table(t, []int{0, 1}), bits.New()
	r.Put(2)
	if symbol, how := lone.Read(r); symbol != 1 || how != huffman.Got {
		t.Errorf("Read = %d, %d, not 1", symbol, how)
	}
	if symbol, how := lone.Read(r); symbol != 0 || how != huffman.Bad {
		t.Errorf("Read = %d, %d, not Bad", symbol, how)
	}
	if sum, may := huffman.Kraft([]int{2, 1, 3, 3}); sum != 32768 || !may {
		t.Errorf("Kraft = %d, %v", sum, may)
	}
}

// The numbers of what came of reading.
func TestNumbersOfHow(t *testing.T) {
	if huffman.Got != 0 || huffman.More != 1 || huffman.Bad != 2 {
		t.Error(huffman.Got, huffman.More, huffman.Bad)
	}
}

// P8.1: sums, written out.
func TestKraft(t *testing.T) {
	for _, c := range []struct {
		lengths []int
		sum     int
		may     bool
	}{
		{nil, 0, true},
		{[]int{}, 0, true},
		{[]int{0}, 0, true},
		{same(320, 0), 0, true},
		{same(321, 0), 0, false},
		{[]int{1}, 16384, true},
		{[]int{2}, 8192, true},
		{[]int{14}, 2, true},
		{[]int{15}, 1, true},
		{[]int{16}, 0, false},
		{[]int{-1}, 0, false},
		{[]int{1, 1}, 32768, true},
		{[]int{1, 1, 15}, 32769, true},
		{ladder(), 32768, true},
		{ladder()[:15], 32767, true},
		{[]int{15, 0, 1}, 16385, true},
		{same(319, 15), 319, true},
		{same(320, 15), 320, true},
		{same(321, 15), 0, false},
		{same(320, 1), 5242880, true},
		{fixed(), 32768, true},
	} {
		if sum, may := huffman.Kraft(c.lengths); sum != c.sum || may != c.may {
			t.Errorf("Kraft(%v) = %d, %v, not %d, %v", c.lengths, sum, may, c.sum, c.may)
		}
	}
}

// P8.1, P8.2: how many lengths there may be.
func TestHowManyLengths(t *testing.T) {
	for _, n := range []int{0, 1, 2, 319, 320, 321, 322, 640, 65536, 100000} {
		for length := range 17 {
			wantNew(t, same(n, length))
		}
		if n >= 16 {
			wantNew(t, join(ladder(), same(n-16, 0)))
			wantNew(t, join(same(n-16, 0), ladder()))
			wantNew(t, join(same(n-1, 0), []int{1}))
		}
	}
}

// P8.1, P8.2: any length at the first, a middle and the last place, among noughts and among codes.
func TestLengthsAtAnyPlace(t *testing.T) {
	odd := []int{math.MinInt, math.MinInt32, -256, -16, -15, -1, 0, 1, 2, 14, 15, 16, 17, 31, 256, 1 << 32, 1<<32 + 1, math.MaxInt32, math.MaxInt}
	for _, around := range [][]int{{0}, {1}, same(3, 0), {1, 0, 1}, {1, 1, 1}, ladder(), same(319, 0), same(320, 0), same(320, 15), same(321, 0)} {
		for _, place := range []int{0, len(around) / 2, len(around) - 1} {
			for _, length := range odd {
				lengths := slices.Clone(around)
				lengths[place] = length
				wantNew(t, lengths)
			}
		}
	}
}

// P8.1, P8.2: sums just below, at and above 2^15, in many ways.
func TestSumsAtTheEdge(t *testing.T) {
	for name, lengths := range fullSets() {
		if e := slowError(lengths); e != api.OK {
			t.Fatalf("%s: full lengths are refused: %d", name, int(e))
		}
		wantNew(t, lengths)
		for i, length := range lengths {
			less, more := slices.Clone(lengths), slices.Clone(lengths)
			less[i], more[i] = length+1, max(length-1, 1)
			wantNew(t, less)
			wantNew(t, more)
			wantNew(t, slices.Delete(slices.Clone(lengths), i, i+1))
		}
		for length := range 17 {
			wantNew(t, join(lengths, []int{length}))
			wantNew(t, join([]int{length}, lengths))
		}
	}
}

// P8.2: the errors, written out; ErrArg comes ahead of ErrOver and ErrUnder, wherever the wrong length stands.
func TestNewErrors(t *testing.T) {
	for _, c := range []struct {
		lengths []int
		want    api.Errno
	}{
		{ladder(), api.OK},
		{ladder()[:15], api.ErrUnder},
		{join(ladder(), []int{15}), api.ErrOver},
		{[]int{1, 1, 15}, api.ErrOver},
		{[]int{2, 2}, api.ErrUnder},
		{[]int{2, 3, 3}, api.ErrUnder},
		{[]int{1, 15}, api.ErrUnder},
		{[]int{2}, api.ErrUnder},
		{[]int{15}, api.ErrUnder},
		{same(320, 1), api.ErrOver},
		{same(320, 8), api.ErrOver},
		{same(320, 9), api.ErrUnder},
		{same(321, 0), api.ErrArg},
		{same(321, 1), api.ErrArg},
		{same(321, 9), api.ErrArg},
		{[]int{1, 1, 1, 16}, api.ErrArg},
		{[]int{16, 1, 1, 1}, api.ErrArg},
		{[]int{1, 1, 1, -1}, api.ErrArg},
		{[]int{2, 16}, api.ErrArg},
		{[]int{-1, 2}, api.ErrArg},
		{[]int{-1}, api.ErrArg},
		{[]int{1, 1, math.MinInt}, api.ErrArg},
		{[]int{1, 1, math.MaxInt}, api.ErrArg},
		{[]int{0, -1}, api.ErrArg},
		{[]int{1, 16}, api.ErrArg},
	} {
		if h, e := huffman.New(c.lengths); e != c.want || (h != nil) != (c.want == api.OK) {
			t.Errorf("New(%v) = %v, error %d, not %d", c.lengths, h, int(e), int(c.want))
		}
	}
}

// P8.2: of one code alone, beside noughts, at any place: a table just if it is of the length 1.
func TestOneCode(t *testing.T) {
	for _, n := range []int{1, 2, 3, 7, 319, 320} {
		for place := 0; place < n; place += 1 + n/40 {
			for length := 1; length <= 15; length++ {
				lengths := same(n, 0)
				lengths[place] = length
				h, e := huffman.New(lengths)
				if length > 1 {
					if h != nil || e != api.ErrUnder {
						t.Errorf("%d lengths, %d at %d: %v, error %d", n, length, place, h, int(e))
					}
					continue
				}
				wantLone(t, h, n, place)
			}
		}
	}
}

// wantLone tells it if a table is not that of n symbols, of which one alone has a code.
func wantLone(t *testing.T, h *huffman.Table, n, symbol int) {
	t.Helper()
	if h == nil || h.Symbols() != n {
		t.Fatalf("%d lengths, 1 at %d: %v", n, symbol, h)
	}
	for s := -1; s <= n; s++ {
		code, long, ok := h.Code(s)
		if s == symbol && (code != 0 || long != 1 || !ok) || s != symbol && (code != 0 || long != 0 || ok) {
			t.Errorf("%d lengths, 1 at %d: Code(%d) = %d, %d, %v", n, symbol, s, code, long, ok)
		}
	}
	for digits, want := range map[string][2]int{
		"":   {0, huffman.More},
		"0":  {symbol, huffman.Got},
		"1":  {0, huffman.Bad},
		"01": {symbol, huffman.Got},
		"10": {0, huffman.Bad},
	} {
		r := holding(t, digits)
		if s, how := h.Read(r); s != want[0] || how != want[1] {
			t.Errorf("%d lengths, 1 at %d: Read of %q = %d, %d", n, symbol, digits, s, how)
		}
		if want[1] == huffman.Got {
			digits = digits[1:]
		}
		left(t, "lone", r, digits)
	}
}

// P8.1 to P8.4: every list of up to four lengths from -1 to 4, and 16, with all bits that may be held.
func TestEveryShortList(t *testing.T) {
	var runs []string
	for n := range 6 {
		for v := range 1 << n {
			runs = append(runs, fmt.Sprintf("%0*b", n, v)[:n])
		}
	}
	choices := []int{-1, 0, 1, 2, 3, 4, 16}
	lists := [][]int{{}}
	for i := 0; i < len(lists); i++ {
		lengths := lists[i]
		wantNew(t, lengths)
		if slowError(lengths) == api.OK {
			h, codes := table(t, lengths), slowCodes(lengths)
			wantCodes(t, h, lengths, codes)
			for _, digits := range runs {
				readOnce(t, h, codes, digits)
			}
		}
		for _, length := range choices {
			if len(lengths) < 4 {
				lists = append(lists, join(lengths, []int{length}))
			}
		}
	}
	if len(lists) != 1+7+49+343+2401 {
		t.Error(len(lists))
	}
}

// P8.1, P8.2: any lengths, held against the slow ones.
func TestAnyLengths(t *testing.T) {
	dice := rand.New(rand.NewSource(8))
	for range 3000 {
		lengths := anyFull(dice, 2+dice.Intn(60), dice.Intn(20))
		if dice.Intn(3) > 0 {
			lengths[dice.Intn(len(lengths))] = dice.Intn(18) - 1
		}
		wantNew(t, lengths)
	}
}

// wantCodes holds Code of every symbol, and of what is none, against codes as digits.
func wantCodes(t *testing.T, h *huffman.Table, lengths []int, codes []string) {
	t.Helper()
	for symbol, want := range codes {
		code, n, ok := h.Code(symbol)
		if ok != (lengths[symbol] > 0) || n != lengths[symbol] {
			t.Fatalf("%v: Code(%d) = %d, %d, %v", lengths, symbol, code, n, ok)
		}
		if !ok && code != 0 || ok && fmt.Sprintf("%0*b", n, code) != want {
			t.Fatalf("%v: Code(%d) = %b of %d bits, not %s", lengths, symbol, code, n, want)
		}
	}
	for _, symbol := range []int{math.MinInt, math.MinInt32, -321, -1, len(codes), len(codes) + 1, 320, 321, 1 << 32, math.MaxInt} {
		if symbol >= 0 && symbol < len(codes) {
			continue
		}
		if code, n, ok := h.Code(symbol); code != 0 || n != 0 || ok {
			t.Fatalf("%v: Code(%d) = %d, %d, %v", lengths, symbol, code, n, ok)
		}
	}
}

// P8.3: the codes of many lengths.
func TestCodes(t *testing.T) {
	for name, lengths := range allSets() {
		t.Run(name, func(t *testing.T) {
			wantCodes(t, table(t, lengths), lengths, slowCodes(lengths))
		})
	}
	dice := rand.New(rand.NewSource(3))
	for range 200 {
		lengths := anyFull(dice, 2+dice.Intn(200), dice.Intn(100))
		wantCodes(t, table(t, lengths), lengths, slowCodes(lengths))
	}
}

// P8.3: codes written out, those of DEFLATE's fixed blocks and of the ladder.
func TestCodesWrittenOut(t *testing.T) {
	for _, c := range []struct {
		lengths []int
		symbol  int
		want    string
	}{
		{fixed(), 0, "00110000"},
		{fixed(), 143, "10111111"},
		{fixed(), 144, "110010000"},
		{fixed(), 255, "111111111"},
		{fixed(), 256, "0000000"},
		{fixed(), 279, "0010111"},
		{fixed(), 280, "11000000"},
		{fixed(), 287, "11000111"},
		{ladder(), 0, "0"},
		{ladder(), 1, "10"},
		{ladder(), 13, "11111111111110"},
		{ladder(), 14, "111111111111110"},
		{ladder(), 15, "111111111111111"},
		{[]int{3, 3, 3, 3, 3, 2, 4, 4}, 0, "010"},
		{[]int{3, 3, 3, 3, 3, 2, 4, 4}, 5, "00"},
		{[]int{3, 3, 3, 3, 3, 2, 4, 4}, 7, "1111"},
		{join(same(128, 9), same(192, 8)), 0, "110000000"},
		{join(same(128, 9), same(192, 8)), 319, "10111111"},
		{[]int{0, 1, 0, 1}, 3, "1"},
	} {
		code, n, ok := table(t, c.lengths).Code(c.symbol)
		if got := fmt.Sprintf("%0*b", n, code); got != c.want || n != len(c.want) || !ok {
			t.Errorf("Code(%d) = %s, %d, %v, not %s", c.symbol, got, n, ok, c.want)
		}
	}
}

// P8.3: the codes of one length rise by one with the symbols, and the first one is two times the number behind the last one of the next shorter length.
func TestCodesRise(t *testing.T) {
	for name, lengths := range allSets() {
		h := table(t, lengths)
		behind := uint32(0) // behind the last code of the length below
		for length := 1; length <= 15; length++ {
			next := 2 * behind
			if length == 1 {
				next = 0
			}
			for symbol, l := range lengths {
				if l != length {
					continue
				}
				if code, n, ok := h.Code(symbol); code != next || n != length || !ok {
					t.Errorf("%s: Code(%d) = %b, %d, %v, not %b", name, symbol, code, n, ok, next)
				}
				next++
			}
			behind = next
		}
	}
}

// P8.4: where there is no reader.
func TestReadOfNoReader(t *testing.T) {
	for name, lengths := range allSets() {
		if symbol, how := table(t, lengths).Read(nil); symbol != 0 || how != huffman.Bad {
			t.Errorf("%s: Read(nil) = %d, %d", name, symbol, how)
		}
	}
}

// P8.4: of a reader that holds nothing: no bits are the beginning of every code, where there is one.
func TestReadOfNoBits(t *testing.T) {
	for name, lengths := range allSets() {
		want := huffman.More
		if sum, _ := slowSum(lengths); sum == 0 {
			want = huffman.Bad
		}
		r := bits.New()
		for range 2 {
			if symbol, how := table(t, lengths).Read(r); symbol != 0 || how != want || r.Held() != 0 {
				t.Errorf("%s: Read of no bits = %d, %d, with %d left", name, symbol, how, r.Held())
			}
		}
		r.Put(0)
		r.Clear()
		if symbol, how := table(t, lengths).Read(r); symbol != 0 || how != want {
			t.Errorf("%s: Read of a cleared reader = %d, %d", name, symbol, how)
		}
	}
}

// P8.4: a code's bits one behind the other: More till the last one, then the symbol, with just its bits taken, whatever stands behind them.
func TestReadBitByBit(t *testing.T) {
	for name, lengths := range allSets() {
		h := table(t, lengths)
		for symbol, code := range slowCodes(lengths) {
			for n := range len(code) {
				r := holding(t, code[:n])
				if s, how := h.Read(r); s != 0 || how != huffman.More {
					t.Fatalf("%s: Read of %q = %d, %d", name, code[:n], s, how)
				}
				left(t, "More", r, code[:n])
			}
			for _, behind := range []string{"", "0", "1", "01", strings.Repeat("1", 15), strings.Repeat("0", 64-len(code))} {
				if code == "" {
					continue
				}
				r := holding(t, code+behind)
				if s, how := h.Read(r); s != symbol || how != huffman.Got {
					t.Fatalf("%s: Read of %q = %d, %d, not %d", name, code+behind, s, how, symbol)
				}
				left(t, "Got", r, behind)
			}
		}
	}
}

// P8.4: a table without codes tells Bad whatever is held, and takes nothing.
func TestReadWithoutCodes(t *testing.T) {
	for name, lengths := range bareSets() {
		h := table(t, lengths)
		for n := range 65 {
			for _, digit := range []string{"0", "1"} {
				digits := strings.Repeat(digit, n)
				r := holding(t, digits)
				for range 2 {
					if symbol, how := h.Read(r); symbol != 0 || how != huffman.Bad {
						t.Fatalf("%s: Read of %q = %d, %d", name, digits, symbol, how)
					}
					left(t, name, r, digits)
				}
			}
		}
	}
}

// P8.4: a table of one code, with any bits.
func TestReadOfOneCode(t *testing.T) {
	for name, lengths := range loneSets() {
		h, codes := table(t, lengths), slowCodes(lengths)
		for n := range 65 {
			for _, digits := range []string{strings.Repeat("0", n), strings.Repeat("1", n), strings.Repeat("01", n)[:n], strings.Repeat("10", n)[:n]} {
				readOnce(t, h, codes, digits)
			}
		}
		r := holding(t, "0001")
		symbol := slices.Index(lengths, 1)
		for _, want := range [][2]int{{symbol, huffman.Got}, {symbol, huffman.Got}, {symbol, huffman.Got}, {0, huffman.Bad}, {0, huffman.Bad}} {
			if s, how := h.Read(r); s != want[0] || how != want[1] {
				t.Errorf("%s: Read = %d, %d, not %v", name, s, how, want)
			}
		}
		left(t, name, r, "1")
	}
}

// P8.4: any lengths, any bits held, up to 64 of them.
func TestReadOfAnyBits(t *testing.T) {
	dice := rand.New(rand.NewSource(4))
	for range 300 {
		lengths := anyFull(dice, 2+dice.Intn(100), dice.Intn(30))
		h, codes := table(t, lengths), slowCodes(lengths)
		for range 60 {
			list := make([]byte, 8)
			dice.Read(list)
			n := dice.Intn(65)
			if dice.Intn(2) == 0 {
				n = dice.Intn(17)
			}
			readOnce(t, h, codes, unpack(list)[:n])
		}
	}
}

// P8.5: no code is the beginning of another one.
func TestNoCodeBeginsAnother(t *testing.T) {
	for name, lengths := range allSets() {
		h := table(t, lengths)
		var codes []string
		for symbol := range h.Symbols() {
			if code, n, ok := h.Code(symbol); ok {
				codes = append(codes, fmt.Sprintf("%0*b", n, code))
			}
		}
		for i, c := range codes {
			for j, d := range codes {
				if i != j && strings.HasPrefix(d, c) {
					t.Errorf("%s: %s begins %s", name, c, d)
				}
			}
		}
	}
}

// P8.5: of full lengths every run of 15 bits gives a symbol, and each of its beginnings a symbol or More.
func TestReadOfEveryRun(t *testing.T) {
	for name, lengths := range fullSets() {
		h, codes := table(t, lengths), slowCodes(lengths)
		symbols := map[string]int{}
		for symbol, code := range codes {
			if code != "" {
				symbols[code] = symbol
			}
		}
		for v := range 1 << 15 {
			r := bits.New()
			r.Put(byte(v << 1))
			r.Put(byte(v >> 7))
			r.Take(1)
			symbol, how := h.Read(r)
			taken := 15 - r.Held()
			run := fmt.Sprintf("%015b", bits.Reverse(uint32(v), 15))
			if want, there := symbols[run[:taken]]; how != huffman.Got || !there || symbol != want {
				t.Fatalf("%s: Read of %s = %d, %d, with %d bits taken", name, run, symbol, how, taken)
			}
		}
		for n := range 15 {
			for v := range min(1<<n, 200) {
				readOnce(t, h, codes, fmt.Sprintf("%0*b", n, v)[:n])
			}
		}
	}
}

// write lays the symbols' codes one behind the other.
func write(t *testing.T, h *huffman.Table, symbols []int) string {
	t.Helper()
	var digits strings.Builder
	for _, symbol := range symbols {
		code, n, ok := h.Code(symbol)
		if !ok {
			t.Fatalf("symbol %d has no code", symbol)
		}
		fmt.Fprintf(&digits, "%0*b", n, code)
	}
	return digits.String()
}

// readBack reads so many symbols, a byte put in whenever more bits are needed.
func readBack(t *testing.T, turn func(i int) *huffman.Table, list []byte, many int) []int {
	t.Helper()
	r, put := bits.New(), 0
	var symbols []int
	for len(symbols) < many {
		symbol, how := turn(len(symbols)).Read(r)
		switch {
		case how == huffman.Got:
			symbols = append(symbols, symbol)
		case how == huffman.More && r.Held() < 15 && put < len(list):
			r.Put(list[put])
			put++
		default:
			t.Fatalf("Read = %d, %d behind %d symbols and %d bytes, with %d held", symbol, how, len(symbols), put, r.Held())
		}
	}
	if put != len(list) || r.Held() > 7 {
		t.Fatalf("%d of %d bytes put in, %d bits left", put, len(list), r.Held())
	}
	return symbols
}

// anySymbols makes a list of symbols that have codes, each of them at least once.
func anySymbols(dice *rand.Rand, lengths []int, more int) []int {
	var coded []int
	for symbol, length := range lengths {
		if length > 0 {
			coded = append(coded, symbol)
		}
	}
	symbols := slices.Clone(coded)
	for range more {
		symbols = append(symbols, coded[dice.Intn(len(coded))])
	}
	dice.Shuffle(len(symbols), func(i, j int) { symbols[i], symbols[j] = symbols[j], symbols[i] })
	return symbols
}

// P8.5: symbols written by their codes are read back, whole bytes put in one at a time.
func TestReadBack(t *testing.T) {
	dice := rand.New(rand.NewSource(5))
	sets := fullSets()
	for name, lengths := range loneSets() {
		sets["lone: "+name] = lengths
	}
	for i := range 100 {
		sets[fmt.Sprint("any ", i)] = anyFull(dice, 2+dice.Intn(150), dice.Intn(100))
	}
	for name, lengths := range sets {
		h := table(t, lengths)
		symbols := anySymbols(dice, lengths, 500)
		list := pack(write(t, h, symbols))
		back := readBack(t, func(int) *huffman.Table { return h }, list, len(symbols))
		if !slices.Equal(back, symbols) {
			t.Errorf("%s: %v was read back as %v", name, symbols, back)
		}
	}
}

// P8.5: two tables read by turns out of one reader.
func TestTwoTablesByTurns(t *testing.T) {
	dice := rand.New(rand.NewSource(6))
	sets := fullSets()
	for a, one := range sets {
		for b, other := range sets {
			tables := []*huffman.Table{table(t, one), table(t, other)}
			rows := [][]int{anySymbols(dice, one, 300), anySymbols(dice, other, 300)}
			var symbols []int
			var digits strings.Builder
			for i := range 2 * min(len(rows[0]), len(rows[1])) {
				symbol := rows[i%2][i/2]
				symbols = append(symbols, symbol)
				digits.WriteString(write(t, tables[i%2], []int{symbol}))
			}
			turn := func(i int) *huffman.Table { return tables[i%2] }
			if back := readBack(t, turn, pack(digits.String()), len(symbols)); !slices.Equal(back, symbols) {
				t.Errorf("%s and %s: %v was read back as %v", a, b, symbols, back)
			}
		}
	}
}

// Rule 1: every method of a nil table answers zero values, and does nothing.
func TestNilTable(t *testing.T) {
	var h *huffman.Table
	for range 2 {
		if h.Symbols() != 0 {
			t.Error(h.Symbols())
		}
		for _, symbol := range []int{math.MinInt, -1, 0, 1, 320, math.MaxInt} {
			if code, n, ok := h.Code(symbol); code != 0 || n != 0 || ok {
				t.Errorf("Code(%d) = %d, %d, %v", symbol, code, n, ok)
			}
		}
		for _, digits := range []string{"", "0", "1", "0110101", strings.Repeat("10", 32)} {
			r := holding(t, digits)
			if symbol, how := h.Read(r); symbol != 0 || how != 0 {
				t.Errorf("Read of %q = %d, %d", digits, symbol, how)
			}
			left(t, "nil", r, digits)
		}
		if symbol, how := h.Read(nil); symbol != 0 || how != 0 {
			t.Errorf("Read of no reader = %d, %d", symbol, how)
		}
	}
}

// Rule 2: beside an error there is no table.
func TestNoTableBesideAnError(t *testing.T) {
	for _, lengths := range [][]int{{16}, {-1}, same(321, 0), {1, 1, 1}, {1, 2}, {15}} {
		if h, e := huffman.New(lengths); h != nil || e == api.OK {
			t.Errorf("New(%v) = %v, error %d", lengths, h, int(e))
		}
		if sum, may := huffman.Kraft(lengths); !may && sum != 0 {
			t.Errorf("Kraft(%v) = %d, false", lengths, sum)
		}
	}
}

// Rule 3: the lengths are as they were, their spare room, too, and what stands there counts for nothing.
func TestLengthsAsTheyWere(t *testing.T) {
	for name, lengths := range allSets() {
		room := join(lengths, []int{1, 16, -1, 7})
		kept := slices.Clone(room)
		huffman.Kraft(room[:len(lengths)])
		h := table(t, room[:len(lengths)])
		if h.Symbols() != len(lengths) {
			t.Errorf("%s: %d symbols", name, h.Symbols())
		}
		h.Code(0)
		h.Read(holding(t, "0101010101010101"))
		if !slices.Equal(room, kept) {
			t.Errorf("%s: the lengths have become %v", name, room)
		}
	}
	refused := []int{1, 1, 1, 16}
	huffman.New(refused)
	huffman.New(refused[:3])
	huffman.Kraft(refused)
	if !slices.Equal(refused, []int{1, 1, 1, 16}) {
		t.Error(refused)
	}
}

// Rule 3: the lengths may be changed behind New without an answer changing.
func TestLengthsNotKept(t *testing.T) {
	for name, lengths := range allSets() {
		given := slices.Clone(lengths)
		h := table(t, given)
		for i := range given {
			given[i] = 15 - i%16
		}
		codes := slowCodes(lengths)
		if h.Symbols() != len(lengths) {
			t.Errorf("%s: %d symbols", name, h.Symbols())
		}
		wantCodes(t, h, lengths, codes)
		for _, digits := range []string{"", "0", "1", "00110", "1111111111111111", "0000000000000000"} {
			readOnce(t, h, codes, digits)
		}
	}
}

// Rule 4: reading leaves a table as it was, and another one, and the same call answers the same again.
func TestTablesHaveNothingInCommon(t *testing.T) {
	for name, lengths := range allSets() {
		one, two := table(t, lengths), table(t, lengths)
		r := bits.New()
		for i := range 500 {
			r.Put(byte(i * 37))
			if _, how := one.Read(r); how == huffman.Bad {
				r.Clear()
			}
			one.Code(i)
		}
		huffman.New([]int{2, 1, 3, 3})
		huffman.New([]int{1, 1, 1})
		if !reflect.DeepEqual(one, two) || !reflect.DeepEqual(one, table(t, lengths)) {
			t.Errorf("%s: a table has changed", name)
		}
		wantCodes(t, one, lengths, slowCodes(lengths))
	}
}

// Rule 4: one table may read out of two readers by turns.
func TestTwoReadersByTurns(t *testing.T) {
	dice := rand.New(rand.NewSource(9))
	h := table(t, fixed())
	symbols := [][]int{anySymbols(dice, fixed(), 99), anySymbols(dice, fixed(), 99)}
	var lists [2][]byte
	var put, got [2]int
	for i := range lists {
		lists[i] = pack(write(t, h, symbols[i]))
	}
	readers := []*bits.Reader{bits.New(), bits.New()}
	for got[0] < len(symbols[0]) || got[1] < len(symbols[1]) {
		i := dice.Intn(2)
		if got[i] == len(symbols[i]) {
			continue
		}
		symbol, how := h.Read(readers[i])
		if how == huffman.More && put[i] < len(lists[i]) {
			readers[i].Put(lists[i][put[i]])
			put[i]++
			continue
		}
		if how != huffman.Got || symbol != symbols[i][got[i]] {
			t.Fatalf("reader %d: Read = %d, %d, not %d", i, symbol, how, symbols[i][got[i]])
		}
		got[i]++
	}
}
