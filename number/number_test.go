package number_test

import (
	"archive/tar"
	"bytes"
	"fmt"
	"math"
	"math/big"
	"math/rand"
	"regexp"
	"strings"
	"testing"

	"winkle/number"
)

// octalForm is the chapter's field of digits.
var octalForm = regexp.MustCompile(`\A *([0-7]*)(?:[\x00 ][\x00 ]*)?\z`)

// small tells a number, if it is below 2^63.
func small(n *big.Int) (uint64, bool) {
	if n.BitLen() > 63 {
		return 0, false
	}
	return n.Uint64(), true
}

// slowOctal is the chapter's words, with numbers of any size.
func slowOctal(field []byte) (uint64, bool) {
	found := octalForm.FindSubmatch(field)
	if found == nil {
		return 0, false
	}
	n, _ := new(big.Int).SetString("0"+string(found[1]), 8)
	return small(n)
}

// slowBinary is the chapter's words, with numbers of any size.
func slowBinary(field []byte) (uint64, bool) {
	if len(field) == 0 || field[0] < 128 || field[0] >= 192 {
		return 0, false
	}
	rest := bytes.Clone(field)
	rest[0] -= 128
	return small(new(big.Int).SetBytes(rest))
}

func slowField(field []byte) (uint64, bool) {
	if len(field) > 0 && field[0] >= 128 {
		return slowBinary(field)
	}
	return slowOctal(field)
}

// slowPut is the chapter's words, with digits and bytes as texts.
func slowPut(v uint64, width int) ([]byte, bool) {
	if width < 2 || width > 64 || v >= 1<<63 {
		return nil, false
	}
	if digits := fmt.Sprintf("%0*o", width-1, v); len(digits) == width-1 {
		return append([]byte(digits), 0), true
	}
	if big := new(big.Int).SetUint64(v); big.BitLen() <= 8*(width-1) {
		return append([]byte{128}, big.FillBytes(make([]byte, width-1))...), true
	}
	return nil, false
}

// slowSums lays 8 blanks over the sum field of a copy, and adds.
func slowSums(block []byte) (plain, signed int, ok bool) {
	if len(block) != 512 {
		return 0, 0, false
	}
	list := bytes.Clone(block)
	copy(list[148:], "        ")
	for _, b := range list {
		plain += int(b)
		if b < 128 {
			signed += int(b)
		} else {
			signed += int(b) - 256
		}
	}
	return plain, signed, true
}

func slowRight(block []byte) bool {
	plain, signed, ok := slowSums(block)
	if !ok {
		return false
	}
	v, ok := slowOctal(block[148:156])
	return ok && (v == uint64(plain) || signed >= 0 && v == uint64(signed))
}

// sameNumber holds one of the three readers against the chapter's words.
func sameNumber(t *testing.T, what string, read, slow func([]byte) (uint64, bool), field []byte) {
	t.Helper()
	v, ok := read(field)
	if want, may := slow(field); v != want || ok != may {
		t.Errorf("%s of %q = %d, %v, want %d, %v", what, field, v, ok, want, may)
	}
}

func sameOctal(t *testing.T, field []byte) {
	t.Helper()
	sameNumber(t, "Octal", number.Octal, slowOctal, field)
}

func sameBinary(t *testing.T, field []byte) {
	t.Helper()
	sameNumber(t, "Binary", number.Binary, slowBinary, field)
}

func sameField(t *testing.T, field []byte) {
	t.Helper()
	sameNumber(t, "Field", number.Field, slowField, field)
}

// random tells any bytes.
func random(dice *rand.Rand, n int) []byte {
	list := make([]byte, n)
	dice.Read(list)
	return list
}

// withSum tells a block with a text at the beginning of its sum field.
func withSum(block []byte, sum string) []byte {
	block = bytes.Clone(block)
	copy(block[148:156], sum)
	return block
}

// octal tells a sum field of a number: seven digits and a byte 0.
func octal(v int) string {
	return fmt.Sprintf("%07o\x00", v)
}

// blocks are some of each kind: noughts, bytes 127, 128 and 255, texts, any bytes, and two of which the signed sum is 0 and 1.
func blocks() [][]byte {
	dice := rand.New(rand.NewSource(5))
	list := [][]byte{make([]byte, 512), random(dice, 512), random(dice, 512), nearNought(0), nearNought(1)}
	for _, b := range []byte{1, 32, '0', 127, 128, 255} {
		list = append(list, bytes.Repeat([]byte{b}, 512))
	}
	return list
}

// nearNought tells a block of which the signed sum is so many: two bytes -128 take away what the 8 blanks of the sum field give.
func nearNought(sum byte) []byte {
	block := make([]byte, 512)
	block[0], block[511], block[1] = 128, 128, sum
	return block
}

type readCase struct {
	field string
	want  uint64
	ok    bool
}

func tellsNumbers(t *testing.T, what string, read func([]byte) (uint64, bool), cases []readCase) {
	t.Helper()
	for _, c := range cases {
		if v, ok := read([]byte(c.field)); v != c.want || ok != c.ok {
			t.Errorf("%s of %q = %d, %v, want %d, %v", what, c.field, v, ok, c.want, c.ok)
		}
	}
}

// Examples 1 and 2.
func TestExamplesOfReading(t *testing.T) {
	tellsNumbers(t, "Octal", number.Octal, []readCase{
		{"  17 ", 15, true}, {"17x", 0, false}, {"", 0, true}, {"8", 0, false}, {"\x001", 0, false},
	})
	tellsNumbers(t, "Binary", number.Binary, []readCase{
		{"\x80\x01\x00", 256, true}, {"\xff\xff", 0, false},
	})
	tellsNumbers(t, "Field", number.Field, []readCase{{"\x81", 1, true}})
}

// Example 3.
func TestExamplesOfPut(t *testing.T) {
	for _, c := range []struct {
		v     uint64
		width int
		want  string
		ok    bool
	}{
		{8, 4, "010\x00", true}, {512, 4, "\x80\x00\x02\x00", true}, {1 << 24, 4, "", false}, {1, 1, "", false},
	} {
		if field, ok := number.Put(c.v, c.width); string(field) != c.want || ok != c.ok {
			t.Errorf("Put(%d, %d) = %q, %v, want %q, %v", c.v, c.width, field, ok, c.want, c.ok)
		}
	}
}

// Example 4.
func TestExamplesOfBlocks(t *testing.T) {
	block := make([]byte, 512)
	if plain, signed, ok := number.Sums(block); plain != 256 || signed != 256 || !ok {
		t.Errorf("Sums of noughts = %d, %d, %v", plain, signed, ok)
	}
	if !number.Zero(block) {
		t.Error("Zero of noughts is false")
	}
	if number.Right(block) {
		t.Error("Right of noughts is true")
	}
}

// P5.1: no bytes, blanks alone, bytes 0 alone, and both.
func TestOctalWithoutDigits(t *testing.T) {
	if v, ok := number.Octal(nil); v != 0 || !ok {
		t.Errorf("Octal(nil) = %d, %v", v, ok)
	}
	if v, ok := number.Octal([]byte{}); v != 0 || !ok {
		t.Errorf("Octal of an empty field = %d, %v", v, ok)
	}
	if v, ok := number.Octal([]byte("123")[1:1]); v != 0 || !ok {
		t.Errorf("Octal of no bytes of three = %d, %v", v, ok)
	}
	for n := 1; n < 70; n++ {
		for _, one := range []string{" ", "\x00", "\x00 ", " \x00"} {
			if v, ok := number.Octal([]byte(strings.Repeat(one, n))); v != 0 || !ok {
				t.Errorf("Octal of %d times %q = %d, %v", n, one, v, ok)
			}
		}
	}
}

// P5.1: blanks ahead, digits, and each two bytes behind them.
func TestOctalBehindDigits(t *testing.T) {
	tellsNumbers(t, "Octal", number.Octal, []readCase{
		{"0", 0, true}, {"7", 7, true}, {"10", 8, true}, {"01234567", 342391, true}, {"  644", 420, true},
		{"17\x00\x00", 15, true}, {"17\x00 ", 15, true}, {"17\x001", 0, false}, {"17\x00x", 0, false},
		{"17 \x00", 15, true}, {"17  ", 15, true}, {"17 1", 0, false}, {"17 x", 0, false},
		{"17 \x00 \x00 7", 0, false}, {"17 \x00 \x00\xff", 0, false}, {"1 \x00", 1, true},
		{"\x00 1", 0, false}, {" \x001", 0, false}, {" \x00", 0, true}, {" \x00x", 0, false},
	})
	for i := range 256 {
		for j := range 256 {
			sameOctal(t, []byte{' ', '1', '7', byte(i), byte(j)})
			sameOctal(t, []byte{byte(i), byte(j)})
			sameOctal(t, []byte{' ', byte(i), '5', byte(j), ' '})
		}
	}
}

// P5.1: each byte alone; beside digits, blanks and bytes 0 it is none: the signs 8, 9 and / too, which stand next to the digits.
func TestOctalOfEachByte(t *testing.T) {
	for i := range 256 {
		b := byte(i)
		v, ok := number.Octal([]byte{b})
		switch {
		case b >= '0' && b <= '7':
			if v != uint64(b-'0') || !ok {
				t.Errorf("Octal of %q = %d, %v", b, v, ok)
			}
		case b == 0 || b == ' ':
			if v != 0 || !ok {
				t.Errorf("Octal of %q = %d, %v", b, v, ok)
			}
		default:
			if v != 0 || ok {
				t.Errorf("Octal of %q = %d, %v", b, v, ok)
			}
		}
	}
	tellsNumbers(t, "Octal", number.Octal, []readCase{
		{"8", 0, false}, {"9", 0, false}, {"/", 0, false}, {"18", 0, false}, {"19", 0, false}, {"1/", 0, false},
		{"81", 0, false}, {"91", 0, false}, {"/1", 0, false}, {"-1", 0, false}, {"+1", 0, false}, {"0x1", 0, false},
		{"0o1", 0, false}, {"1_1", 0, false}, {"\t1", 0, false}, {"1\n", 0, false}, {"\xb1", 0, false}, {"x", 0, false},
	})
}

// P5.1: both sides of 2^63, far beyond it, and noughts ahead, with blanks ahead and bytes behind.
func TestOctalGreat(t *testing.T) {
	many := strings.Repeat("0", 1000)
	cases := []readCase{
		{"777777777777777777777", 1<<63 - 1, true},
		{"777777777777777777776", 1<<63 - 2, true},
		{"1000000000000000000000", 0, false},
		{"1000000000000000000001", 0, false},
		{"1777777777777777777777", 0, false},
		{"2000000000000000000000", 0, false},
		{"2000000000000000000005", 0, false},
		{"10000000000000000000000000000000000000000005", 0, false},
		{strings.Repeat("7", 5000), 0, false},
		{"1" + many, 0, false},
		{many, 0, true},
		{many + "17", 15, true},
		{many + "777777777777777777777", 1<<63 - 1, true},
		{many + "1000000000000000000000", 0, false},
	}
	for _, c := range cases {
		for _, ahead := range []string{"", " ", "   "} {
			for _, behind := range []string{"", "\x00", " ", "\x00 \x00"} {
				tellsNumbers(t, "Octal", number.Octal, []readCase{{ahead + c.field + behind, c.want, c.ok}})
			}
		}
	}
}

// P5.1: each field of up to 5 bytes of those that matter, and any longer ones.
func TestOctalOfAnyFields(t *testing.T) {
	signs := []byte{0, 32, '0', '1', '7', '8', '/', 'x', 128}
	fields := [][]byte{nil}
	for range 5 {
		var longer [][]byte
		for _, field := range fields {
			for _, b := range signs {
				longer = append(longer, append(bytes.Clone(field), b))
			}
		}
		fields = longer
		for _, field := range fields {
			sameOctal(t, field)
			sameField(t, field)
		}
	}
	dice := rand.New(rand.NewSource(1))
	for range 20000 {
		field := strings.Repeat(" ", dice.Intn(4))
		for range dice.Intn(26) {
			field += string(rune('0' + dice.Intn(8)))
		}
		field += strings.Repeat("\x00", dice.Intn(3)) + strings.Repeat(" ", dice.Intn(3))
		sameOctal(t, []byte(field))
		sameField(t, []byte(field))
	}
}

// P5.2: no bytes, and one byte of each value.
func TestBinaryOfOneByte(t *testing.T) {
	for _, field := range [][]byte{nil, {}, []byte("123")[1:1]} {
		if v, ok := number.Binary(field); v != 0 || ok {
			t.Errorf("Binary of no bytes = %d, %v", v, ok)
		}
	}
	for i := range 256 {
		v, ok := number.Binary([]byte{byte(i)})
		if i >= 128 && i < 192 {
			if v != uint64(i-128) || !ok {
				t.Errorf("Binary of a byte %d = %d, %v", i, v, ok)
			}
		} else if v != 0 || ok {
			t.Errorf("Binary of a byte %d = %d, %v", i, v, ok)
		}
	}
}

// P5.2: two bytes of each value.
func TestBinaryOfTwoBytes(t *testing.T) {
	for i := range 256 {
		for j := range 256 {
			sameBinary(t, []byte{byte(i), byte(j)})
		}
	}
	tellsNumbers(t, "Binary", number.Binary, []readCase{
		{"\x80\x00", 0, true}, {"\x80\xff", 255, true}, {"\x81\x00", 256, true}, {"\xbf\xff", 1<<14 - 1, true},
		{"\xc0\x00", 0, false}, {"\xff\xff", 0, false}, {"\x7f\xff", 0, false}, {"17", 0, false}, {"\x00\x01", 0, false},
	})
}

// P5.2: both sides of 2^63, far beyond it, and noughts ahead.
func TestBinaryGreat(t *testing.T) {
	many := strings.Repeat("\x00", 1000)
	tellsNumbers(t, "Binary", number.Binary, []readCase{
		{"\xbf\xff\xff\xff\xff\xff\xff\xff", 1<<62 - 1, true},
		{"\x80\x7f\xff\xff\xff\xff\xff\xff\xff", 1<<63 - 1, true},
		{"\x80\x7f\xff\xff\xff\xff\xff\xff\xfe", 1<<63 - 2, true},
		{"\x80\x80\x00\x00\x00\x00\x00\x00\x00", 0, false},
		{"\x80\x80\x00\x00\x00\x00\x00\x00\x01", 0, false},
		{"\x80\xff\xff\xff\xff\xff\xff\xff\xff", 0, false},
		{"\x81\x00\x00\x00\x00\x00\x00\x00\x00", 0, false},
		{"\x81\x00\x00\x00\x00\x00\x00\x00\x05", 0, false},
		{"\x80\x01\x00\x00\x00\x00\x00\x00\x00\x05", 0, false},
		{"\x80" + strings.Repeat("\xff", 1000), 0, false},
		{"\x81" + many, 0, false},
		{"\x80" + many, 0, true},
		{"\x80" + many + "\x01\x02", 258, true},
		{"\x80" + many + "\x7f\xff\xff\xff\xff\xff\xff\xff", 1<<63 - 1, true},
		{"\x80" + many + "\x80\x00\x00\x00\x00\x00\x00\x00", 0, false},
		{"\xc0" + many + "\x01", 0, false},
	})
}

// P5.2: any fields, of which many begin with noughts.
func TestBinaryOfAnyFields(t *testing.T) {
	dice := rand.New(rand.NewSource(2))
	for range 20000 {
		field := random(dice, dice.Intn(12))
		if len(field) > 0 && dice.Intn(4) > 0 {
			field[0] |= 128
		}
		for i := range field[min(1, len(field)):] {
			if dice.Intn(2) == 0 {
				break
			}
			field[i+1] = 0
		}
		sameBinary(t, field)
		sameField(t, field)
	}
}

// P5.3: each first byte, alone and with others behind it.
func TestFieldOfEachFirstByte(t *testing.T) {
	for _, rest := range []string{"", "\x00", " ", "1", "17\x00", "7 \x00", "\x01\x00", "x", "\x80", "1234567 1"} {
		for i := range 256 {
			field := append([]byte{byte(i)}, rest...)
			v, ok := number.Field(field)
			want, may := slowOctal(field)
			if i >= 128 {
				want, may = slowBinary(field)
			}
			if v != want || ok != may {
				t.Errorf("Field of %q = %d, %v, want %d, %v", field, v, ok, want, may)
			}
		}
	}
}

// P5.3: of no bytes it is Octal.
func TestFieldOfNone(t *testing.T) {
	for _, field := range [][]byte{nil, {}} {
		if v, ok := number.Field(field); v != 0 || !ok {
			t.Errorf("Field of no bytes = %d, %v", v, ok)
		}
	}
	tellsNumbers(t, "Field", number.Field, []readCase{
		{"00000000017\x00", 15, true}, {"\x80\x00\x00\x00\x00\x00\x00\x02\x00\x00\x00\x00", 1 << 33, true},
		{"\xff\xff\xff\xff\xff\xff\xff\xff\xff\xff\xff\xff", 0, false}, {"\x7f", 0, false}, {"\xc0", 0, false},
	})
}

// widths are all that may be, and those that may not.
func widths() []int {
	list := []int{math.MinInt, math.MinInt + 1, math.MinInt32, -64, -2, -1, math.MaxInt32, math.MaxInt - 1, math.MaxInt, 128, 256 + 4}
	for width := range 70 {
		list = append(list, width)
	}
	return list
}

// values are numbers at both sides of each power of 2, so of what digits and bytes bear.
func values() []uint64 {
	list := []uint64{0, 7, 8, 0o777, 0o1234567, 1<<63 - 1, 1 << 63, 1<<63 + 1, math.MaxUint64 - 1, math.MaxUint64}
	for i := range 64 {
		list = append(list, 1<<i-1, 1<<i, 1<<i+1, 0x0123456789abcdef>>i)
	}
	return list
}

// P5.4: each width with each number at an edge.
func TestPut(t *testing.T) {
	for _, width := range widths() {
		for _, v := range values() {
			field, ok := number.Put(v, width)
			if want, may := slowPut(v, width); !bytes.Equal(field, want) || ok != may {
				t.Errorf("Put(%d, %d) = %q, %v, want %q, %v", v, width, field, ok, want, may)
			}
			if !ok && len(field) > 0 {
				t.Errorf("Put(%d, %d) tells %q beside false", v, width, field)
			}
		}
	}
}

// P5.4: the edges of the chapter, written out.
func TestPutEdges(t *testing.T) {
	for _, c := range []struct {
		v     uint64
		width int
		want  string
		ok    bool
	}{
		{0, math.MinInt, "", false}, {0, -1, "", false}, {0, 0, "", false}, {0, 1, "", false},
		{0, 65, "", false}, {0, math.MaxInt, "", false}, {7, 65, "", false},
		{0, 2, "0\x00", true}, {7, 2, "7\x00", true}, {8, 2, "\x80\x08", true}, {255, 2, "\x80\xff", true}, {256, 2, "", false},
		{0, 3, "00\x00", true}, {63, 3, "77\x00", true}, {64, 3, "\x80\x00\x40", true}, {65535, 3, "\x80\xff\xff", true}, {65536, 3, "", false},
		{0o7777777, 8, "7777777\x00", true}, {0o10000000, 8, "\x80\x00\x00\x00\x00\x20\x00\x00", true},
		{1<<56 - 1, 8, "\x80\xff\xff\xff\xff\xff\xff\xff", true}, {1 << 56, 8, "", false},
		{1<<33 - 1, 12, "77777777777\x00", true}, {1 << 33, 12, "\x80\x00\x00\x00\x00\x00\x00\x02\x00\x00\x00\x00", true},
		{1<<63 - 1, 9, "\x80\x7f\xff\xff\xff\xff\xff\xff\xff", true}, {1<<63 - 1, 12, "\x80\x00\x00\x00\x7f\xff\xff\xff\xff\xff\xff\xff", true},
		{1<<63 - 1, 22, "777777777777777777777\x00", true},
		{1<<63 - 1, 64, strings.Repeat("0", 42) + "777777777777777777777\x00", true},
		{0, 64, strings.Repeat("0", 63) + "\x00", true},
		{1 << 63, 12, "", false}, {1 << 63, 22, "", false}, {1 << 63, 23, "", false}, {1 << 63, 64, "", false},
		{math.MaxUint64, 9, "", false}, {math.MaxUint64, 64, "", false},
	} {
		if field, ok := number.Put(c.v, c.width); string(field) != c.want || ok != c.ok {
			t.Errorf("Put(%d, %d) = %q, %v, want %q, %v", c.v, c.width, field, ok, c.want, c.ok)
		}
	}
}

// P5.6: Field of each Put that is true is the number.
func TestFieldOfPut(t *testing.T) {
	numbers := values()
	dice := rand.New(rand.NewSource(3))
	for range 300 {
		numbers = append(numbers, dice.Uint64()>>dice.Intn(64))
	}
	written := 0
	for _, width := range widths() {
		for _, v := range numbers {
			field, ok := number.Put(v, width)
			if !ok {
				continue
			}
			written++
			if len(field) != width {
				t.Errorf("Put(%d, %d) has %d bytes", v, width, len(field))
			}
			if got, ok := number.Field(field); got != v || !ok {
				t.Errorf("Field of Put(%d, %d) = %d, %v", v, width, got, ok)
			}
		}
	}
	if written < 10000 {
		t.Errorf("only %d numbers were written", written)
	}
}

// P5.5: no block: 0, 511 and 513 bytes, and others.
func TestNoBlock(t *testing.T) {
	lists := [][]byte{nil, {}}
	for _, n := range []int{1, 148, 156, 511, 513, 1024} {
		lists = append(lists, make([]byte, n), withSum(make([]byte, max(n, 156)), octal(256))[:n])
	}
	for _, list := range lists {
		if plain, signed, ok := number.Sums(list); plain != 0 || signed != 0 || ok {
			t.Errorf("Sums of %d bytes = %d, %d, %v", len(list), plain, signed, ok)
		}
		if number.Right(list) {
			t.Errorf("Right of %d bytes is true", len(list))
		}
		if number.Zero(list) {
			t.Errorf("Zero of %d bytes is true", len(list))
		}
	}
}

// P5.5: blocks of one byte throughout: the sum field counts as 8 blanks.
func TestSumsOfOneByteThroughout(t *testing.T) {
	for i := range 256 {
		block := bytes.Repeat([]byte{byte(i)}, 512)
		wantPlain, wantSigned := 504*i+256, 504*i+256
		if i > 127 {
			wantSigned = 504*(i-256) + 256
		}
		if plain, signed, ok := number.Sums(block); plain != wantPlain || signed != wantSigned || !ok {
			t.Errorf("Sums of 512 bytes %d = %d, %d, %v, want %d, %d", i, plain, signed, ok, wantPlain, wantSigned)
		}
	}
}

// P5.5: the byte at each place counts, as a number from 0 on and as one that may be below 0.
func TestSumsAtEachPlace(t *testing.T) {
	for i := range 512 {
		for _, b := range []byte{1, 127, 128, 255} {
			block := make([]byte, 512)
			block[i] = b
			wantPlain, wantSigned, _ := slowSums(block)
			if plain, signed, ok := number.Sums(block); plain != wantPlain || signed != wantSigned || !ok {
				t.Errorf("Sums with a byte %d at %d = %d, %d, %v, want %d, %d", b, i, plain, signed, ok, wantPlain, wantSigned)
			}
		}
	}
}

// P5.5: every byte of the sum field may be another one: the sums stay.
func TestSumsWithoutSumField(t *testing.T) {
	for _, block := range blocks() {
		wantPlain, wantSigned, _ := slowSums(block)
		for i := 148; i < 156; i++ {
			other := bytes.Clone(block)
			for range 256 {
				other[i]++
				if plain, signed, ok := number.Sums(other); plain != wantPlain || signed != wantSigned || !ok {
					t.Fatalf("Sums with a byte %d at %d = %d, %d, %v, want %d, %d", other[i], i, plain, signed, ok, wantPlain, wantSigned)
				}
			}
		}
	}
}

// P5.6: a block in which one byte beside its sum field is another one has another plain sum.
func TestAnotherPlainSum(t *testing.T) {
	for _, block := range blocks() {
		was, _, _ := number.Sums(block)
		for i := range block {
			if i >= 148 && i < 156 {
				continue
			}
			other := bytes.Clone(block)
			for range 255 {
				other[i]++
				if plain, _, ok := number.Sums(other); plain == was || !ok {
					t.Fatalf("with %d at %d instead of %d the plain sum is %d, %v again", other[i], i, block[i], plain, ok)
				}
			}
		}
	}
}

// P5.5: Right with the plain sum and with the signed one, and one more and one less than each.
func TestRight(t *testing.T) {
	for _, block := range blocks() {
		plain, below, _ := slowSums(block)
		for _, v := range []int{plain - 1, plain, plain + 1, below - 1, below, below + 1, 0, 256, plain + 1<<18} {
			if v < 0 {
				continue
			}
			want := v == plain || v == below
			for _, field := range []string{octal(v), fmt.Sprintf("%06o\x00 ", v), fmt.Sprintf("%8o", v), fmt.Sprintf("%7o ", v)} {
				if got := number.Right(withSum(block, field)); got != want {
					t.Errorf("Right with the sums %d and %d and the field %q = %v", plain, below, field, got)
				}
			}
		}
	}
}

// P5.5: a signed sum that is below 0 is no number's, and the plain one still is right.
func TestRightBelowNought(t *testing.T) {
	block := bytes.Repeat([]byte{255}, 512)
	plain, below, _ := number.Sums(block)
	if below != -248 {
		t.Fatalf("the signed sum of bytes 255 is %d", below)
	}
	for _, field := range []string{octal(-below), "-370    ", "-0000370", "\xff\xff\xff\xff\xff\xff\xff\x08", "        "} {
		if number.Right(withSum(block, field)) {
			t.Errorf("Right with the sum -248 and the field %q is true", field)
		}
	}
	if !number.Right(withSum(block, octal(plain))) {
		t.Error("Right with the plain sum is false")
	}
}

// P5.5: a sum field that is no number is not right, not even where a sum is 0.
func TestRightOfNoNumber(t *testing.T) {
	for _, field := range []string{"00004008", "000040x0", "\x00000400\x00", "400\x00001", "\x80\x00\x00\x00\x00\x00\x01\x00", "00256\x00  ", "0000400x"} {
		if number.Right(withSum(make([]byte, 512), field)) {
			t.Errorf("Right of noughts with the field %q is true", field)
		}
	}
	block := nearNought(0)
	if plain, below, ok := number.Sums(block); plain != 512 || below != 0 || !ok {
		t.Fatalf("Sums = %d, %d, %v", plain, below, ok)
	}
	for _, field := range []string{"x       ", "00000008", "\x000000000", "\x80\x00\x00\x00\x00\x00\x00\x00", "-0000000"} {
		if number.Right(withSum(block, field)) {
			t.Errorf("Right with a signed sum 0 and the field %q is true", field)
		}
	}
	for _, field := range []string{"00000000", "0       ", "        ", "\x00\x00\x00\x00\x00\x00\x00\x00", octal(512)} {
		if !number.Right(withSum(block, field)) {
			t.Errorf("Right with a signed sum 0 and the field %q is false", field)
		}
	}
}

// P5.5: the sum field is the bytes 148 to 155: one byte of another value at each place of a block that was right.
func TestRightWithOneTurned(t *testing.T) {
	for _, block := range blocks() {
		plain, _, _ := slowSums(block)
		block = withSum(block, octal(plain))
		if !number.Right(block) {
			t.Fatalf("Right with the plain sum %d is false", plain)
		}
		for i := range block {
			for _, by := range []byte{1, 2, 8, 32, 128, 255} {
				other := bytes.Clone(block)
				other[i] ^= by
				if got, want := number.Right(other), slowRight(other); got != want {
					t.Errorf("Right with %d at %d instead of %d = %v", other[i], i, block[i], got)
				}
			}
		}
	}
}

// P5.5: Zero with one byte of another value at each place, the sum field's too.
func TestZero(t *testing.T) {
	block := make([]byte, 512)
	if !number.Zero(block) {
		t.Error("Zero of noughts is false")
	}
	for i := range block {
		for b := 1; b < 256; b++ {
			block[i] = byte(b)
			if number.Zero(block) {
				t.Fatalf("Zero with a byte %d at %d is true", b, i)
			}
		}
		block[i] = 0
	}
	for _, b := range []byte{1, 32, '0', 128, 255} {
		if number.Zero(bytes.Repeat([]byte{b}, 512)) {
			t.Errorf("Zero of bytes %d is true", b)
		}
	}
}

// P5.3, P5.5: headers as another program writes them.
func TestHeadersOfArchives(t *testing.T) {
	for _, form := range []tar.Format{tar.FormatUSTAR, tar.FormatGNU} {
		for _, size := range []int64{0, 1, 511, 512, 1<<33 - 1, 1 << 33, 1<<62 + 5} {
			if form == tar.FormatUSTAR && size >= 1<<33 {
				continue
			}
			var out bytes.Buffer
			head := &tar.Header{Name: "n\xe4me", Mode: 0o644, Uid: 1000, Size: size, Format: form}
			if form == tar.FormatUSTAR {
				head.Name = "name"
			}
			if err := tar.NewWriter(&out).WriteHeader(head); err != nil {
				t.Fatal(err)
			}
			block := out.Bytes()[:512]
			if !number.Right(block) || number.Zero(block) {
				t.Errorf("with the size %d, Right = %v, Zero = %v", size, number.Right(block), number.Zero(block))
			}
			if v, ok := number.Field(block[124:136]); v != uint64(size) || !ok {
				t.Errorf("Field of the size %d = %d, %v", size, v, ok)
			}
			if v, ok := number.Field(block[100:108]); v != 0o644 || !ok {
				t.Errorf("Field of the mode = %o, %v", v, ok)
			}
		}
	}
}

// asked is all that the package tells of some bytes.
func asked(list []byte) string {
	a, okA := number.Octal(list)
	b, okB := number.Binary(list)
	c, okC := number.Field(list)
	plain, signed, ok := number.Sums(list)
	return fmt.Sprint(a, okA, b, okB, c, okC, plain, signed, ok, number.Right(list), number.Zero(list))
}

// Rules 1, 3 and 4: any bytes may be asked for; they are as they were, their spare room too, and are told the same again, whatever was asked between.
func TestListIsAsItWas(t *testing.T) {
	dice := rand.New(rand.NewSource(4))
	lists := append(blocks(), nil, []byte{}, []byte("  17 "), []byte("17x"), []byte{128, 1, 0}, []byte{255, 255}, []byte("\x001"))
	for range 500 {
		lists = append(lists, random(dice, dice.Intn(20)), random(dice, 512))
	}
	var first []string
	for _, list := range lists {
		room := append(append([]byte{9}, list...), 7, 8, 9)
		was := bytes.Clone(room)
		first = append(first, asked(room[1:1+len(list)]))
		if !bytes.Equal(room, was) {
			t.Fatalf("%v became of %v", room, was)
		}
		clear(room)
	}
	for i := len(lists) - 1; i >= 0; i-- {
		if again := asked(lists[i]); again != first[i] {
			t.Fatalf("of %v: %s, then %s", lists[i], first[i], again)
		}
	}
}

// Rules 3 and 4: what Put tells is new memory, its spare room too: what is done with it is not seen in another answer.
func TestPutIsNewMemory(t *testing.T) {
	for _, v := range []uint64{0, 5, 512, 1 << 23} {
		for width := 4; width < 65; width++ {
			first, ok := number.Put(v, width)
			if !ok {
				t.Fatalf("Put(%d, %d) is false", v, width)
			}
			was := bytes.Clone(first)
			second, _ := number.Put(v, width)
			for i := range second[:cap(second)] {
				second[:cap(second)][i] ^= 255
			}
			third, _ := number.Put(v, width)
			if !bytes.Equal(first, was) || !bytes.Equal(third, was) {
				t.Fatalf("Put(%d, %d) = %q, and then %q and %q", v, width, was, first, third)
			}
		}
	}
}
