package crc_test

import (
	"bytes"
	"math"
	"math/rand/v2"
	"slices"
	"testing"

	"tabulary/crc"
)

// period is behind how many bytes 0 any register is what it was: Castagnoli's polynomial is x + 1 times one of degree 31, and modulo both of them x to the 2^31 - 1 is 1.
const period = 1<<31 - 1

func newDice() *rand.Rand { return rand.New(rand.NewPCG(4, 6)) }

func someBytes(dice *rand.Rand, length int) []byte {
	b := make([]byte, length)
	for i := range b {
		b[i] = byte(dice.UintN(256))
	}
	return b
}

// someSums are sums with bits in each place, and any others.
func someSums(dice *rand.Rand) []uint32 {
	sums := []uint32{0, 1, 2, 0x80, 0xff, 0x100, 0x7fffffff, 0x80000000, 0x82f63b78, 0xe3069283, 0xfffffffe, 0xffffffff}
	for bit := range 32 {
		sums = append(sums, 1<<bit)
	}
	for range 20 {
		sums = append(sums, dice.Uint32())
	}
	return sums
}

// taken is the register of the section 'Words', with a byte taken into it, bit by bit.
func taken(register uint32, c byte) uint32 {
	register ^= uint32(c)
	for range 8 {
		out := register%2 == 1
		register /= 2
		if out {
			register ^= 0x82f63b78
		}
	}
	return register
}

// defined is More by P4.1.
func defined(sum uint32, b []byte) uint32 {
	register := sum ^ 0xffffffff
	for _, c := range b {
		register = taken(register, c)
	}
	return register ^ 0xffffffff
}

// definedSum is Sum by P4.1.
func definedSum(b []byte) uint32 {
	register := uint32(0xffffffff)
	for _, c := range b {
		register = taken(register, c)
	}
	return register ^ 0xffffffff
}

// definedJoin is Join by P4.2, which tells it by noughts.
func definedJoin(a, b uint32, n int) uint32 {
	noughts := make([]byte, max(n, 0))
	return defined(a, noughts) ^ defined(0, noughts) ^ b
}

// times is the product of two polynomials modulo Castagnoli's, x to the 0 being a register's highest bit: moving a register one bit down is to multiply by x.
func times(a, b uint32) uint32 {
	var product uint32
	for bit := 31; bit >= 0; bit-- {
		if a>>bit&1 == 1 {
			product ^= b
		}
		out := b&1 == 1
		b >>= 1
		if out {
			b ^= 0x82f63b78
		}
	}
	return product
}

// farJoin is Join of so many noughts that nobody can lay them side by side: a times x to the 8 n.
func farJoin(a, b uint32, n int) uint32 {
	power, base := uint32(1)<<31, uint32(1)<<(31-8)
	for ; n > 0; n /= 2 {
		if n%2 == 1 {
			power = times(power, base)
		}
		base = times(base, base)
	}
	return times(a, power) ^ b
}

func wantSum(t *testing.T, what string, got, want uint32) {
	t.Helper()
	if got != want {
		t.Errorf("%s: %08X, not %08X", what, got, want)
	}
}

func wantBytes(t *testing.T, what string, got, want []byte) {
	t.Helper()
	if !bytes.Equal(got, want) {
		t.Errorf("%s: %x, not %x", what, got, want)
	}
}

func wantOpen(t *testing.T, what string, b, want []byte) {
	t.Helper()
	got, ok := crc.Open(b)
	if !ok || !bytes.Equal(got, want) {
		t.Errorf("%s: %x %v, not %x", what, got, ok, want)
	}
}

func wantShut(t *testing.T, what string, b []byte) {
	t.Helper()
	got, ok := crc.Open(b)
	if ok || len(got) != 0 {
		t.Errorf("%s: opened %x as %x %v", what, b, got, ok)
	}
}

// roomy is b with room behind it that is not the call's to write to.
func roomy(b []byte) []byte {
	r := append(bytes.Clone(b), 0xa1, 0xa2, 0xa3, 0xa4, 0xa5, 0xa6, 0xa7, 0xa8)
	return r[:len(b)]
}

// overwrite writes to all that a list can reach.
func overwrite(b []byte) {
	b = b[:cap(b)]
	for i := range b {
		b[i] ^= 0x5a
	}
}

// flipped is b with the bits of a pattern turned, whose lowest one falls on the bit of that number: bits of a byte from the lowest on, bytes from the first on. What falls behind the end is left out.
func flipped(b []byte, first int, pattern uint64) []byte {
	c := bytes.Clone(b)
	for bit := range 64 {
		at := first + bit
		if pattern>>bit&1 == 1 && at < 8*len(c) {
			c[at/8] ^= 1 << (at % 8)
		}
	}
	return c
}

// The examples of the chapter's table.
func TestExamples(t *testing.T) {
	wantSum(t, "Sum(123456789)", crc.Sum([]byte("123456789")), 0xe3069283)
	wantSum(t, "Sum(none)", crc.Sum(nil), 0)
	wantSum(t, "Sum(one byte 0)", crc.Sum([]byte{0}), 0x527d5351)
	wantSum(t, "More", crc.More(crc.Sum([]byte("1234")), []byte("56789")), 0xe3069283)
	wantSum(t, "Join", crc.Join(crc.Sum([]byte("1234")), crc.Sum([]byte("56789")), 5), 0xe3069283)
	wantSum(t, "Join(7, 9, -1)", crc.Join(7, 9, -1), 14)
	wantBytes(t, "Seal(none)", crc.Seal(nil), []byte{0, 0, 0, 0})
	wantOpen(t, "Open(four bytes 0)", []byte{0, 0, 0, 0}, nil)
	wantShut(t, "Open(three)", []byte{0, 0, 0})
}

// P4.1: sums that others have told of CRC-32C (RFC 3720, appendix B.4).
func TestKnownSums(t *testing.T) {
	rising := make([]byte, 32)
	for i := range rising {
		rising[i] = byte(i)
	}
	falling := slices.Clone(rising)
	slices.Reverse(falling)
	wantSum(t, "32 bytes 0", crc.Sum(make([]byte, 32)), 0x8a9136aa)
	wantSum(t, "32 bytes FF", crc.Sum(bytes.Repeat([]byte{0xff}, 32)), 0x62a8ab43)
	wantSum(t, "32 rising bytes", crc.Sum(rising), 0x46dd794e)
	wantSum(t, "32 falling bytes", crc.Sum(falling), 0x113fdb5c)
}

// P4.1: Sum of no bytes, of each byte, of each two bytes, of many.
func TestSum(t *testing.T) {
	wantSum(t, "no bytes, nil", crc.Sum(nil), 0)
	wantSum(t, "no bytes, empty", crc.Sum([]byte{}), 0)
	for c := range 256 {
		one := []byte{byte(c)}
		wantSum(t, "one byte", crc.Sum(one), definedSum(one))
		for d := range 256 {
			two := []byte{byte(c), byte(d)}
			if crc.Sum(two) != definedSum(two) {
				t.Fatalf("Sum(%x): %08X, not %08X", two, crc.Sum(two), definedSum(two))
			}
		}
	}
	dice := newDice()
	for length := range 300 {
		b := someBytes(dice, length)
		wantSum(t, "many bytes", crc.Sum(b), definedSum(b))
	}
	long := someBytes(dice, 1<<18)
	wantSum(t, "very many bytes", crc.Sum(long), definedSum(long))
}

// P4.1: More, from any sum: it need not be one that some bytes have been seen to have.
func TestMore(t *testing.T) {
	dice := newDice()
	for _, sum := range someSums(dice) {
		wantSum(t, "More of no bytes, nil", crc.More(sum, nil), sum)
		wantSum(t, "More of no bytes, empty", crc.More(sum, []byte{}), sum)
		for c := range 256 {
			one := []byte{byte(c)}
			wantSum(t, "More of one byte", crc.More(sum, one), defined(sum, one))
		}
		for _, length := range []int{2, 3, 4, 5, 7, 8, 9, 31, 64, 257, 1000} {
			b := someBytes(dice, length)
			wantSum(t, "More of many bytes", crc.More(sum, b), defined(sum, b))
		}
	}
}

// P4.2: Join of any two sums and any n is what P4.2 tells by noughts.
func TestJoin(t *testing.T) {
	dice := newDice()
	sums := someSums(dice)
	counts := []int{100, 127, 128, 255, 256, 257, 511, 512, 1000, 1023, 1024, 4097}
	for n := range 40 {
		counts = append(counts, n)
	}
	for _, n := range counts {
		for _, a := range sums {
			b := dice.Uint32()
			wantSum(t, "Join", crc.Join(a, b, n), definedJoin(a, b, n))
		}
		wantSum(t, "Join to 0", crc.Join(0, 0, n), 0)
		wantSum(t, "Join of alike", crc.Join(0xffffffff, 0xffffffff, n), definedJoin(0xffffffff, 0xffffffff, n))
	}
	for _, n := range []int{1 << 16, 1<<16 + 1, 1<<20 - 1, 1234567} {
		a, b := dice.Uint32(), dice.Uint32()
		wantSum(t, "Join far", crc.Join(a, b, n), definedJoin(a, b, n))
	}
}

// P4.2: the second sum comes in by exclusive or alone, however far.
func TestJoinSecond(t *testing.T) {
	dice := newDice()
	for range 100 {
		a, b, c, n := dice.Uint32(), dice.Uint32(), dice.Uint32(), dice.IntN(math.MaxInt)
		wantSum(t, "Join of another second", crc.Join(a, b, n)^crc.Join(a, c, n), b^c)
	}
}

// P4.2: n of 0, and below 0, which counts as 0.
func TestJoinWithoutNoughts(t *testing.T) {
	dice := newDice()
	for _, a := range someSums(dice) {
		b := dice.Uint32()
		for _, n := range []int{0, -1, -2, -7, -8, -256, math.MinInt32, math.MinInt + 1, math.MinInt} {
			wantSum(t, "Join without noughts", crc.Join(a, b, n), a^b)
		}
	}
}

// P4.2: n so great that there are not as many bytes, up to the greatest int.
func TestJoinFar(t *testing.T) {
	dice := newDice()
	for n := range 70 {
		a, b := dice.Uint32(), dice.Uint32()
		if farJoin(a, b, n) != definedJoin(a, b, n) {
			t.Fatalf("the test's own farJoin is wrong for %d", n)
		}
	}
	counts := []int{math.MaxInt, math.MaxInt - 1, math.MaxInt / 2, math.MaxInt/2 + 1, math.MaxInt32, math.MaxInt32 - 1}
	for bit := range 62 {
		counts = append(counts, math.MaxInt>>bit, math.MaxInt>>bit-1, dice.IntN(math.MaxInt>>bit))
	}
	for _, n := range counts {
		for _, a := range []uint32{0, 1, 1 << 31, 0xffffffff, dice.Uint32()} {
			b := dice.Uint32()
			wantSum(t, "Join far", crc.Join(a, b, n), farJoin(a, b, n))
			wantSum(t, "Join round", crc.Join(a, b, n), crc.Join(a, b, n%period))
		}
	}
}

// P4.3: Seal puts the sum behind, the lowest byte first.
func TestSeal(t *testing.T) {
	wantBytes(t, "Seal(123456789)", crc.Seal([]byte("123456789")), []byte("123456789\x83\x92\x06\xe3"))
	wantBytes(t, "Seal(one byte 0)", crc.Seal([]byte{0}), []byte{0, 0x51, 0x53, 0x7d, 0x52})
	wantBytes(t, "Seal(empty)", crc.Seal([]byte{}), []byte{0, 0, 0, 0})
	dice := newDice()
	for length := range 200 {
		b := someBytes(dice, length)
		sum := definedSum(b)
		want := append(bytes.Clone(b), byte(sum), byte(sum>>8), byte(sum>>16), byte(sum>>24))
		wantBytes(t, "Seal", crc.Seal(b), want)
		wantOpen(t, "Open", want, b)
	}
}

// P4.3: fewer than four bytes are not opened, whatever they are.
func TestOpenFew(t *testing.T) {
	wantShut(t, "nil", nil)
	wantShut(t, "empty", []byte{})
	for c := range 256 {
		wantShut(t, "one byte", []byte{byte(c)})
		wantShut(t, "two bytes", []byte{byte(c), byte(c)})
		wantShut(t, "three bytes", []byte{byte(c), byte(c), byte(c)})
	}
	behind := crc.Seal(nil)
	for length := range 4 {
		wantShut(t, "noughts with noughts behind them", behind[:length])
	}
}

// P4.3: of all that four bytes can be only 0 is the sum of none.
func TestOpenFour(t *testing.T) {
	wantOpen(t, "four bytes 0", make([]byte, 4), nil)
	for place := range 4 {
		for c := 1; c < 256; c++ {
			four := make([]byte, 4)
			four[place] = byte(c)
			wantShut(t, "four bytes", four)
		}
	}
	wantShut(t, "four bytes FF", bytes.Repeat([]byte{0xff}, 4))
}

// P4.3: each place of the seal, changed to each other byte; seals that another order of bytes would make; sums of other bytes.
func TestOpenChangedSeal(t *testing.T) {
	dice := newDice()
	for _, length := range []int{0, 1, 2, 3, 4, 5, 96} {
		b := someBytes(dice, length)
		sealed := crc.Seal(b)
		for place := length; place < len(sealed); place++ {
			for c := 1; c < 256; c++ {
				changed := bytes.Clone(sealed)
				changed[place] ^= byte(c)
				wantShut(t, "changed seal", changed)
			}
		}
		wantShut(t, "one byte more", append(bytes.Clone(sealed), 1))
		if length > 0 {
			turned := bytes.Clone(sealed)
			slices.Reverse(turned[length:])
			wantShut(t, "the greatest byte first", turned)
			wantShut(t, "one byte less", sealed[:len(sealed)-1])
			wantShut(t, "without the first byte", sealed[1:])
			ahead := append(bytes.Clone(sealed[length:]), b...)
			wantShut(t, "the sum ahead", ahead)
		}
	}
}

// P4.4: bytes cut at each place, gone on with, and joined.
func TestCutAnywhere(t *testing.T) {
	dice := newDice()
	for _, length := range []int{0, 1, 2, 3, 8, 64, 300} {
		b := someBytes(dice, length)
		whole := crc.Sum(b)
		for cut := range length + 1 {
			head, tail := b[:cut], b[cut:]
			wantSum(t, "More of a cut", crc.More(crc.Sum(head), tail), whole)
			wantSum(t, "Join of a cut", crc.Join(crc.Sum(head), crc.Sum(tail), len(tail)), whole)
		}
		var sum, joined uint32
		for i := range b {
			sum = crc.More(sum, b[i:i+1])
			joined = crc.Join(joined, crc.Sum(b[i:i+1]), 1)
		}
		wantSum(t, "More byte by byte", sum, whole)
		wantSum(t, "Join byte by byte", joined, whole)
	}
}

// P4.4: three pieces, joined from either side.
func TestJoinThree(t *testing.T) {
	dice := newDice()
	for range 200 {
		a, b, c := someBytes(dice, dice.IntN(50)), someBytes(dice, dice.IntN(50)), someBytes(dice, dice.IntN(50))
		whole := crc.Sum(slices.Concat(a, b, c))
		left := crc.Join(crc.Join(crc.Sum(a), crc.Sum(b), len(b)), crc.Sum(c), len(c))
		right := crc.Join(crc.Sum(a), crc.Join(crc.Sum(b), crc.Sum(c), len(c)), len(b)+len(c))
		wantSum(t, "from the left", left, whole)
		wantSum(t, "from the right", right, whole)
	}
}

// P4.4: Open of Seal, also of bytes that are sealed already, and of great ones.
func TestOpenOfSeal(t *testing.T) {
	dice := newDice()
	wantOpen(t, "none", crc.Seal(nil), nil)
	for length := range 200 {
		b := someBytes(dice, length)
		wantOpen(t, "Open of Seal", crc.Seal(b), b)
		wantOpen(t, "sealed twice", crc.Seal(crc.Seal(b)), crc.Seal(b))
		wantOpen(t, "noughts", crc.Seal(make([]byte, length)), make([]byte, length))
	}
	for _, length := range []int{1 << 12, 1<<17 + 3} {
		b := someBytes(dice, length)
		wantOpen(t, "many bytes", crc.Seal(b), b)
	}
}

// P4.5: each change within few bits, at each place, the seal's among them.
func TestNarrowChanges(t *testing.T) {
	dice := newDice()
	for _, length := range []int{0, 1, 3, 12} {
		sealed := crc.Seal(someBytes(dice, length))
		for first := range 8 * len(sealed) {
			for pattern := uint64(1); pattern < 1<<10; pattern += 2 {
				wantShut(t, "a narrow change", flipped(sealed, first, pattern))
			}
		}
	}
}

// P4.5: changes of up to 32 bits side by side, at each place: two bits, all bits, any bits.
func TestWideChanges(t *testing.T) {
	dice := newDice()
	for _, length := range []int{0, 1, 2, 3, 4, 5, 28, 96} {
		sealed := crc.Seal(someBytes(dice, length))
		for first := range 8 * len(sealed) {
			for width := 1; width <= 32 && first+width <= 8*len(sealed); width++ {
				last := uint64(1) << (width - 1)
				wantShut(t, "two bits", flipped(sealed, first, 1|last))
				wantShut(t, "all bits", flipped(sealed, first, last|(last-1)))
				wantShut(t, "any bits", flipped(sealed, first, 1|last|dice.Uint64()%last))
			}
			if first+32 <= 8*len(sealed) {
				wantShut(t, "the polynomial without one bit", flipped(sealed, first, 0x82f63b78))
				wantShut(t, "it, the other way round", flipped(sealed, first, 0x1edc6f41))
			}
		}
	}
}

// P4.5 ends at 32 bits: the polynomial itself, which is 33 wide, is noticed nowhere. That tells that the bits are counted as the chapter counts them.
func TestUnnoticedChange(t *testing.T) {
	dice := newDice()
	const wide = 1 | 0x82f63b78<<1
	for _, length := range []int{1, 2, 5, 96} {
		sealed := crc.Seal(someBytes(dice, length))
		for first := range 8*len(sealed) - 32 {
			changed := flipped(sealed, first, wide)
			wantOpen(t, "33 bits", changed, changed[:length])
		}
	}
}

// P4.6: the sums of two rows, of both together, and of as many noughts.
func TestSumsAddUp(t *testing.T) {
	dice := newDice()
	for length := range 130 {
		for range 10 {
			a, b := someBytes(dice, length), someBytes(dice, length)
			both := bytes.Clone(a)
			for i := range both {
				both[i] ^= b[i]
			}
			sum := crc.Sum(a) ^ crc.Sum(b) ^ crc.Sum(both) ^ crc.Sum(make([]byte, length))
			wantSum(t, "two rows, both, noughts", sum, 0)
		}
	}
}

// R3: no argument is changed, nor the room behind it.
func TestArgumentsStay(t *testing.T) {
	dice := newDice()
	for _, length := range []int{0, 1, 3, 4, 5, 64} {
		plain := roomy(someBytes(dice, length))
		sealed := roomy(crc.Seal(plain))
		broken := roomy(crc.Seal(plain))
		broken[0] ^= 1
		for _, b := range [][]byte{plain, sealed, broken} {
			before := bytes.Clone(b[:cap(b)])
			crc.Sum(b)
			crc.More(5, b)
			crc.Seal(b)
			crc.Open(b)
			wantBytes(t, "an argument", b[:cap(b)], before)
		}
	}
}

// R3: what is handed back shares no memory with an argument, spare room too, nor with another answer.
func TestAnswersAreNew(t *testing.T) {
	dice := newDice()
	for _, length := range []int{0, 1, 3, 4, 5, 8, 28, 64, 1000} {
		plain := roomy(someBytes(dice, length))
		before := bytes.Clone(plain[:cap(plain)])
		first := crc.Seal(plain)
		want := bytes.Clone(first)
		overwrite(first)
		wantBytes(t, "bytes that were sealed", plain[:cap(plain)], before)
		wantBytes(t, "Seal again", crc.Seal(plain), want)

		sealed := roomy(want)
		before = bytes.Clone(sealed[:cap(sealed)])
		opened, _ := crc.Open(sealed)
		overwrite(opened)
		wantBytes(t, "bytes that were opened", sealed[:cap(sealed)], before)
		again, _ := crc.Open(sealed)
		other, _ := crc.Open(sealed)
		overwrite(again)
		wantBytes(t, "another answer", other, plain)

		kept, sealedKept := crc.Seal(plain), bytes.Clone(want)
		overwrite(plain)
		overwrite(sealed)
		wantBytes(t, "a seal whose argument was written to", kept, sealedKept)
		wantBytes(t, "opened bytes whose argument was written to", other, want[:length])
	}
}
