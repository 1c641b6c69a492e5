package crc_test

import (
	"bytes"
	"hash/crc32"
	"math"
	"math/rand"
	"testing"

	"winkle/crc"
)

// down is the chapter's one move of the register.
func down(register uint32) uint32 {
	out := register % 2
	register /= 2
	if out == 1 {
		register ^= 0xedb88320
	}
	return register
}

// up takes one move of the register back: only where it was turned is its highest bit a 1.
func up(register uint32) uint32 {
	if register>>31 == 1 {
		return (register^0xedb88320)<<1 | 1
	}
	return register << 1
}

func moved(register uint32, times int, move func(uint32) uint32) uint32 {
	for range times {
		register = move(register)
	}
	return register
}

// slowSum is the chapter's words, one bit after the other.
func slowSum(list []byte) uint32 {
	register := uint32(0xffffffff)
	for _, b := range list {
		register = moved(register^uint32(b), 8, down)
	}
	return register ^ 0xffffffff
}

// behind tells four bytes whose sum is the one that is asked for.
func behind(sum uint32) []byte {
	register := moved(sum^0xffffffff, 32, up) ^ 0xffffffff
	return []byte{byte(register), byte(register >> 8), byte(register >> 16), byte(register >> 24)}
}

// table tells for each bit of a register what becomes of it.
type table [32]uint32

func (m table) of(register uint32) uint32 {
	var sum uint32
	for i := range m {
		if register>>i&1 == 1 {
			sum ^= m[i]
		}
	}
	return sum
}

func (m table) twice() table {
	var all table
	for i := range m {
		all[i] = m.of(m[i])
	}
	return all
}

// slowJoin goes by tables of what whole moves make of every bit, so that n may be as great as an int.
func slowJoin(a, b uint32, n int) uint32 {
	var moves table
	for i := range moves {
		moves[i] = moved(1<<i, 8, down)
	}
	for ; n > 0; n /= 2 {
		if n%2 == 1 {
			a = moves.of(a)
		}
		moves = moves.twice()
	}
	return a ^ b
}

// edges are numbers at both ends, single bits, the ones of the chapter, and some between.
func edges() []uint32 {
	list := []uint32{0, 1, 2, 77, 0x7fffffff, 0x80000000, 0xfffffffe, 0xffffffff, 0xedb88320, 0x12477cdf, 0xcbf43926, 0xe8b7be43, 0xd202ef8d, 0xdebb20e3, 0x55555555, 0xaaaaaaaa, 0x0000ffff, 0xffff0000}
	for i := range 32 {
		list = append(list, 1<<i)
	}
	return list
}

func random(dice *rand.Rand, n int) []byte {
	list := make([]byte, n)
	dice.Read(list)
	return list
}

// texts are some of each kind: none, one byte, noughts, bytes 255, and any.
func texts() [][]byte {
	dice := rand.New(rand.NewSource(4))
	list := [][]byte{nil, {}, {0}, {255}, {'a'}, []byte("1234"), []byte("56789"), []byte("123456789")}
	for _, n := range []int{2, 3, 4, 5, 8, 31, 32, 33, 255, 256, 1000, 4097} {
		list = append(list, make([]byte, n), bytes.Repeat([]byte{255}, n), random(dice, n))
	}
	return list
}

// Examples 1 and 2.
func TestExamples(t *testing.T) {
	all := []byte("123456789")
	for _, c := range []struct {
		what      string
		sum, want uint32
	}{
		{"Sum of 123456789", crc.Sum(all), 0xcbf43926},
		{"Sum of a", crc.Sum([]byte("a")), 0xe8b7be43},
		{"Sum of a byte 0", crc.Sum([]byte{0}), 0xd202ef8d},
		{"Step(0, a)", crc.Step(0, 'a'), 0xe8b7be43},
		{"Join of 1234 and 56789", crc.Join(crc.Sum(all[:4]), crc.Sum(all[4:]), 5), 0xcbf43926},
	} {
		if c.sum != c.want {
			t.Errorf("%s = %08x, want %08x", c.what, c.sum, c.want)
		}
	}
	for _, x := range edges() {
		if sum := crc.Join(x, 0, 0); sum != x {
			t.Errorf("Join(%08x, 0, 0) = %08x", x, sum)
		}
	}
}

// P4.1: of none 0.
func TestSumOfNone(t *testing.T) {
	if sum := crc.Sum(nil); sum != 0 {
		t.Errorf("Sum(nil) = %08x", sum)
	}
	if sum := crc.Sum([]byte{}); sum != 0 {
		t.Errorf("Sum of an empty list = %08x", sum)
	}
	if sum := crc.Sum([]byte("123")[1:1]); sum != 0 {
		t.Errorf("Sum of no bytes of three = %08x", sum)
	}
}

// P4.1: one byte of each value, and pairs of them.
func TestSumOfEachByte(t *testing.T) {
	for i := range 256 {
		one := []byte{byte(i)}
		if sum, want := crc.Sum(one), slowSum(one); sum != want {
			t.Errorf("Sum of a byte %d = %08x, want %08x", i, sum, want)
		}
		for j := range 256 {
			two := []byte{byte(i), byte(j)}
			if sum, want := crc.Sum(two), slowSum(two); sum != want {
				t.Fatalf("Sum of %v = %08x, want %08x", two, sum, want)
			}
		}
	}
}

// P4.1: texts of every kind against the chapter's words, and against the sums that gzip and zip use.
func TestSum(t *testing.T) {
	for _, list := range texts() {
		sum := crc.Sum(list)
		if want := slowSum(list); sum != want {
			t.Errorf("Sum of %d bytes, %.8v ..: %08x, want %08x", len(list), list, sum, want)
		}
		if want := crc32.ChecksumIEEE(list); sum != want {
			t.Errorf("Sum of %d bytes, %.8v ..: %08x, the library's %08x", len(list), list, sum, want)
		}
	}
}

// P4.1: many noughts, many bytes 255, and many of any kind.
func TestSumOfMany(t *testing.T) {
	const n = 1<<20 + 3
	for _, list := range [][]byte{make([]byte, n), bytes.Repeat([]byte{255}, n), random(rand.New(rand.NewSource(5)), n)} {
		if sum, want := crc.Sum(list), slowSum(list); sum != want {
			t.Errorf("Sum of %d bytes, %.4v ..: %08x, want %08x", n, list, sum, want)
		}
	}
}

// P4.2: from each edge and from numbers between, with each byte; every number is the sum of some four bytes.
func TestStep(t *testing.T) {
	dice := rand.New(rand.NewSource(6))
	sums := edges()
	for range 200 {
		sums = append(sums, dice.Uint32())
	}
	for _, sum := range sums {
		text := behind(sum)
		if got := crc.Sum(text); got != sum {
			t.Fatalf("Sum of %v = %08x, want %08x", text, got, sum)
		}
		for i := range 256 {
			want := slowSum(append(text[:4:4], byte(i)))
			if got := crc.Step(sum, byte(i)); got != want {
				t.Fatalf("Step(%08x, %d) = %08x, want %08x", sum, i, got, want)
			}
		}
	}
}

// P4.2: Step byte by byte comes to Sum behind every byte.
func TestStepByStep(t *testing.T) {
	for _, list := range texts() {
		var sum uint32
		for i, b := range list {
			if i > 300 {
				break
			}
			sum = crc.Step(sum, b)
			if want := crc.Sum(list[:i+1]); sum != want {
				t.Fatalf("behind %d bytes of %.8v .. Step comes to %08x, Sum is %08x", i+1, list, sum, want)
			}
		}
	}
}

// P4.3: each two texts, empty ones too, one behind the other.
func TestJoinTexts(t *testing.T) {
	for _, a := range texts() {
		for _, b := range texts() {
			want := crc.Sum(append(bytes.Clone(a), b...))
			if got := crc.Join(crc.Sum(a), crc.Sum(b), len(b)); got != want {
				t.Fatalf("Join of %d and %d bytes = %08x, want %08x", len(a), len(b), got, want)
			}
		}
	}
}

// P4.3: one text, cut at each place.
func TestJoinCuts(t *testing.T) {
	list := random(rand.New(rand.NewSource(7)), 700)
	want := slowSum(list)
	for i := range len(list) + 1 {
		if got := crc.Join(crc.Sum(list[:i]), crc.Sum(list[i:]), len(list)-i); got != want {
			t.Fatalf("cut at %d: Join = %08x, want %08x", i, got, want)
		}
	}
}

// P4.3: three texts come to the same in either order of joining.
func TestJoinThree(t *testing.T) {
	dice := rand.New(rand.NewSource(8))
	for range 300 {
		a, b, c := random(dice, dice.Intn(60)), random(dice, dice.Intn(5)), random(dice, dice.Intn(300))
		want := slowSum(bytes.Join([][]byte{a, b, c}, nil))
		x, y, z := crc.Sum(a), crc.Sum(b), crc.Sum(c)
		left := crc.Join(crc.Join(x, y, len(b)), z, len(c))
		right := crc.Join(x, crc.Join(y, z, len(c)), len(b)+len(c))
		if left != want || right != want {
			t.Fatalf("of %d, %d and %d bytes: %08x and %08x, want %08x", len(a), len(b), len(c), left, right, want)
		}
	}
}

// P4.3: for any numbers, a's register is stepped n times by a byte 0, and turned by b; one step at a time.
func TestJoinAnyNumbers(t *testing.T) {
	for _, a := range edges() {
		stepped := a
		for n := range 600 {
			for _, b := range []uint32{0, 1, 0xffffffff, 0x80000000, 0x12345678} {
				if got := crc.Join(a, b, n); got != stepped^b {
					t.Fatalf("Join(%08x, %08x, %d) = %08x, want %08x", a, b, n, got, stepped^b)
				}
			}
			stepped = moved(stepped, 8, down)
		}
	}
}

// P4.3: the edges of n, with each edge of a and b.
func TestJoinEdges(t *testing.T) {
	counts := []int{0, 1, 2, 3, 255, 256, 65535, 65536, math.MaxInt32 - 1, math.MaxInt32, math.MaxInt - 1, math.MaxInt}
	for i := range 62 {
		counts = append(counts, math.MaxInt>>i, math.MaxInt>>i-1, math.MaxInt>>i^1<<3)
	}
	for _, n := range counts {
		for _, a := range []uint32{0, 1, 77, 0x80000000, 0xdeadbeef, 0xffffffff} {
			for _, b := range []uint32{0, 1, 0xcbf43926, 0xffffffff} {
				if got, want := crc.Join(a, b, n), slowJoin(a, b, n); got != want {
					t.Fatalf("Join(%08x, %08x, %d) = %08x, want %08x", a, b, n, got, want)
				}
			}
		}
	}
}

// P4.3: n below 0 counts as 0.
func TestJoinBelowNought(t *testing.T) {
	for _, n := range []int{-1, -2, -3, -8, -256, math.MinInt32, math.MinInt + 1, math.MinInt} {
		for _, a := range edges() {
			for _, b := range edges() {
				if got := crc.Join(a, b, n); got != a^b || got != crc.Join(a, b, 0) {
					t.Fatalf("Join(%08x, %08x, %d) = %08x, want %08x", a, b, n, got, a^b)
				}
			}
		}
	}
}

// P4.3: a register comes round after 2^32 - 1 bits, so that the greatest int of 64 bits is four bits less than whole rounds.
func TestJoinGreatest(t *testing.T) {
	if math.MaxInt>>62 != 1 {
		t.Skip("ints have fewer than 64 bits")
	}
	for _, a := range edges() {
		for _, b := range []uint32{0, 0xffffffff, 0xcbf43926} {
			want := moved(a, 4, up) ^ b
			if got := crc.Join(a, b, math.MaxInt); got != want {
				t.Errorf("Join(%08x, %08x, the greatest) = %08x, want %08x", a, b, got, want)
			}
		}
	}
}

// turned tells a text with some bits turned, from the bit at on.
func turned(text []byte, at int, by uint32) []byte {
	text = bytes.Clone(text)
	for i := range 32 {
		if by>>i&1 == 1 {
			text[(at+i)/8] ^= 1 << ((at + i) % 8)
		}
	}
	return text
}

// apart are the differences within 32 bits that are looked at: one bit, two up to 31 apart, all up to 32, the divisor, and any.
func apart() []uint32 {
	list := []uint32{0xedb88320, 0x12477cdf, 0x04c11db7, 0x80000001, 0xffffffff}
	for i := range 32 {
		list = append(list, 1<<i, 1|1<<i, 1<<31|1<<i, 0xffffffff>>i, 0xffffffff<<i)
	}
	dice := rand.New(rand.NewSource(9))
	for range 200 {
		list = append(list, dice.Uint32()|1)
	}
	return list
}

// P4.4: texts of one length that differ only within 32 bits, from each bit on, have two sums.
func TestTwoSums(t *testing.T) {
	dice := rand.New(rand.NewSource(10))
	for _, n := range []int{4, 5, 9, 20} {
		for _, text := range [][]byte{make([]byte, n), bytes.Repeat([]byte{255}, n), random(dice, n)} {
			sum := crc.Sum(text)
			for at := range 8*n - 31 {
				for _, by := range apart() {
					other := turned(text, at, by)
					if got := crc.Sum(other); got == sum {
						t.Fatalf("%v and %v have one sum %08x", text, other, sum)
					}
				}
			}
		}
	}
}

// P4.4: texts shorter than 32 bits: every two of up to two bytes have two sums, and so have one of three bytes and many others.
func TestTwoSumsOfShort(t *testing.T) {
	for n := 1; n <= 2; n++ {
		seen := map[uint32]int{}
		for i := range 1 << (8 * n) {
			sum := crc.Sum([]byte{byte(i), byte(i >> 8)}[:n])
			if j, ok := seen[sum]; ok {
				t.Fatalf("of %d bytes, %x and %x have one sum", n, i, j)
			}
			seen[sum] = i
		}
	}
	text := []byte("abc")
	sum := crc.Sum(text)
	for i := 1; i < 1<<24; i += 7 {
		if crc.Sum([]byte{'a' ^ byte(i), 'b' ^ byte(i>>8), 'c' ^ byte(i>>16)}) == sum {
			t.Fatalf("abc turned by %06x has its sum", i)
		}
	}
}

// P4.4: in every bit of 32 that stand side by side, in the midst of a long text.
func TestTwoSumsOfLong(t *testing.T) {
	text := random(rand.New(rand.NewSource(11)), 5000)
	sum := crc.Sum(text)
	for _, at := range []int{0, 1, 7, 8, 19999, 8*len(text) - 33, 8*len(text) - 32} {
		for i := range 32 {
			for _, by := range []uint32{1 << i, 1 | 1<<i, 0xffffffff << i, 0xffffffff >> i} {
				if crc.Sum(turned(text, at, by)) == sum {
					t.Fatalf("turned by %08x at %d, the sum is the same", by, at)
				}
			}
		}
	}
}

// Rules 3 and 4: a list is as it was, its spare room too, and it is not kept: what becomes of it later is seen.
func TestListIsAsItWas(t *testing.T) {
	for _, list := range texts() {
		room := append(append([]byte{9}, list...), 7, 8, 9)
		was := bytes.Clone(room)
		first := crc.Sum(room[1 : 1+len(list)])
		if !bytes.Equal(room, was) {
			t.Fatalf("Sum made %v of %v", room, was)
		}
		if len(list) == 0 {
			continue
		}
		room[1] ^= 1
		if other, want := crc.Sum(room[1:1+len(list)]), slowSum(room[1:1+len(list)]); other != want || other == first {
			t.Fatalf("behind a change, Sum = %08x, want %08x", other, want)
		}
		room[1] ^= 1
		if again := crc.Sum(room[1 : 1+len(list)]); again != first {
			t.Fatalf("Sum = %08x, then %08x", first, again)
		}
	}
}

// Rule 4: what was asked ahead changes nothing.
func TestAnyCalls(t *testing.T) {
	dice := rand.New(rand.NewSource(12))
	for range 5000 {
		a, b, n := dice.Uint32(), dice.Uint32(), int(dice.Uint64())>>dice.Intn(64)
		switch dice.Intn(3) {
		case 0:
			if got, want := crc.Join(a, b, n), slowJoin(a, b, n); got != want {
				t.Fatalf("Join(%08x, %08x, %d) = %08x, want %08x", a, b, n, got, want)
			}
		case 1:
			want := slowSum(append(behind(a), byte(b)))
			if got := crc.Step(a, byte(b)); got != want {
				t.Fatalf("Step(%08x, %d) = %08x, want %08x", a, byte(b), got, want)
			}
		case 2:
			list := random(dice, dice.Intn(70))
			if got, want := crc.Sum(list), slowSum(list); got != want {
				t.Fatalf("Sum(%v) = %08x, want %08x", list, got, want)
			}
		}
	}
}
