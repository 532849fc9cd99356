package digest_test

import (
	"bytes"
	"crypto/sha256"
	"encoding/hex"
	"math/rand/v2"
	"slices"
	"strconv"
	"strings"
	"testing"

	"tabulary/digest"
)

const (
	textOfNone = "e3b0c44298fc1c149afbf4c8996fb92427ae41e4649b934ca495991b7852b855"
	textOfABC  = "ba7816bf8f01cfea414140de5dae2223b00361a396177a9cb410ff61f20015ad"
)

// The section 'Words' has the first state and the numbers k as these texts.
const (
	firstState = "6a09e667 bb67ae85 3c6ef372 a54ff53a 510e527f 9b05688c 1f83d9ab 5be0cd19"
	numbersK   = `
428a2f98 71374491 b5c0fbcf e9b5dba5 3956c25b 59f111f1 923f82a4 ab1c5ed5
d807aa98 12835b01 243185be 550c7dc3 72be5d74 80deb1fe 9bdc06a7 c19bf174
e49b69c1 efbe4786 0fc19dc6 240ca1cc 2de92c6f 4a7484aa 5cb0a9dc 76f988da
983e5152 a831c66d b00327c8 bf597fc7 c6e00bf3 d5a79147 06ca6351 14292967
27b70a85 2e1b2138 4d2c6dfc 53380d13 650a7354 766a0abb 81c2c92e 92722c85
a2bfe8a1 a81a664b c24b8b70 c76c51a3 d192e819 d6990624 f40e3585 106aa070
19a4c116 1e376c08 2748774c 34b0bcb5 391c0cb3 4ed8aa4a 5b9cca4f 682e6ff3
748f82ee 78a5636f 84c87814 8cc70208 90befffa a4506ceb bef9a3f7 c67178f2`
)

// modulus is what words are added by; the definition below counts in numbers of 64 bits and takes it off at each place where the section 'Words' adds.
const modulus = 1 << 32

func numbers(text string) []uint64 {
	var list []uint64
	for _, word := range strings.Fields(text) {
		number, err := strconv.ParseUint(word, 16, 32)
		if err != nil {
			panic(err)
		}
		list = append(list, number)
	}
	return list
}

// round is x >>> n.
func round(x uint64, n int) uint64 { return (x>>n | x<<(32-n)) % modulus }

// not is ~x.
func not(x uint64) uint64 { return modulus - 1 - x }

// definedIn takes one block into the state, as the section 'Words' tells it.
func definedIn(state, k []uint64, block []byte) {
	w := make([]uint64, 64)
	for t := range 16 {
		for i := range 4 {
			w[t] = 256*w[t] + uint64(block[4*t+i])
		}
	}
	for t := 16; t < 64; t++ {
		x, y := w[t-15], w[t-2]
		s := round(x, 7) ^ round(x, 18) ^ x>>3
		r := round(y, 17) ^ round(y, 19) ^ y>>10
		w[t] = (w[t-16] + s + w[t-7] + r) % modulus
	}
	c := slices.Clone(state)
	for t := range 64 {
		u := c[7] + (round(c[4], 6) ^ round(c[4], 11) ^ round(c[4], 25)) + (c[4]&c[5] ^ not(c[4])&c[6]) + k[t] + w[t]
		v := (round(c[0], 2) ^ round(c[0], 13) ^ round(c[0], 22)) + (c[0]&c[1] ^ c[0]&c[2] ^ c[1]&c[2])
		c = []uint64{(u + v) % modulus, c[0], c[1], c[2], (c[3] + u) % modulus, c[4], c[5], c[6]}
	}
	for i := range state {
		state[i] = (state[i] + c[i]) % modulus
	}
}

// defined is the digest of bytes by the section 'Words'.
func defined(b []byte) [32]byte {
	whole := append(bytes.Clone(b), 0x80)
	for (len(whole)+8)%64 != 0 {
		whole = append(whole, 0)
	}
	bits := 8 * len(b)
	for place := 7; place >= 0; place-- {
		whole = append(whole, byte(bits>>(8*place)))
	}
	state, k := numbers(firstState), numbers(numbersK)
	for len(whole) > 0 {
		definedIn(state, k, whole[:64])
		whole = whole[64:]
	}
	var sum [32]byte
	for i := range sum {
		sum[i] = byte(state[i/4] >> (24 - 8*(i%4)))
	}
	return sum
}

func newDice() *rand.Rand { return rand.New(rand.NewPCG(5, 3)) }

func someBytes(dice *rand.Rand, length int) []byte {
	b := make([]byte, length)
	for i := range b {
		b[i] = byte(dice.UintN(256))
	}
	return b
}

// roomy is a copy with room behind its end, filled, so that a write there shows.
func roomy(b []byte) []byte {
	long := append(bytes.Clone(b), bytes.Repeat([]byte{0xa5}, 200)...)
	return long[:len(b)]
}

// overwrite fills a list and the room behind it with other bytes.
func overwrite(b []byte) {
	b = b[:cap(b)]
	for i := range b {
		b[i] ^= 0x5a
	}
}

func wantDigest(t *testing.T, what string, got, want [32]byte) {
	t.Helper()
	if got != want {
		t.Fatalf("%s: digest %x, want %x", what, got, want)
	}
}

// wantHash holds a hash against all bytes that it should have.
func wantHash(t *testing.T, what string, h *digest.Hash, all []byte) {
	t.Helper()
	if h.Len() != len(all) {
		t.Fatalf("%s: Len %d, want %d", what, h.Len(), len(all))
	}
	wantDigest(t, what, h.Sum(), defined(all))
}

func written(pieces ...[]byte) *digest.Hash {
	h := digest.New()
	for _, piece := range pieces {
		h.Write(piece)
	}
	return h
}

// The test's own definition is held against the library's.
func TestDefinition(t *testing.T) {
	dice := newDice()
	for length := range 300 {
		b := someBytes(dice, length)
		wantDigest(t, "defined", defined(b), sha256.Sum256(b))
	}
}

func TestExamples(t *testing.T) {
	if text := digest.Text(digest.Of([]byte("abc"))); text != textOfABC {
		t.Error("Text(Of(abc)):", text)
	}
	if text := digest.Text(digest.Of(nil)); text != textOfNone {
		t.Error("Text(Of(none)):", text)
	}
	h := digest.New()
	h.Write([]byte("ab"))
	wantDigest(t, "the first Sum", h.Sum(), digest.Of([]byte("ab")))
	h.Write([]byte("c"))
	wantDigest(t, "the second Sum", h.Sum(), digest.Of([]byte("abc")))
	if h.Len() != 3 {
		t.Error("Len:", h.Len())
	}
}

// P5.2: Of, at each length to beyond three blocks, where what stands behind the bytes needs one block or two.
func TestOf(t *testing.T) {
	dice := newDice()
	wantDigest(t, "none, nil", digest.Of(nil), defined(nil))
	wantDigest(t, "none, empty", digest.Of([]byte{}), defined(nil))
	for length := range 260 {
		for _, b := range [][]byte{
			make([]byte, length),
			bytes.Repeat([]byte{0x80}, length),
			bytes.Repeat([]byte{0xff}, length),
			someBytes(dice, length),
		} {
			wantDigest(t, strconv.Itoa(length)+" bytes", digest.Of(b), defined(b))
		}
	}
}

// P5.2: each value of a byte, at each place of a block.
func TestOfEachByte(t *testing.T) {
	for place := range 64 {
		for c := range 256 {
			b := make([]byte, 64)
			b[place] = byte(c)
			wantDigest(t, "one byte of a block", digest.Of(b), defined(b))
		}
	}
}

// P5.2: many bytes; from 2^13 and 2^21 on, the number of bits has one byte more.
func TestOfMany(t *testing.T) {
	dice := newDice()
	for _, length := range []int{1000, 4096, 8191, 8192, 8193, 65536, 100003, 131072, 1<<21 - 1, 1 << 21, 1<<21 + 77} {
		b := someBytes(dice, length)
		wantDigest(t, strconv.Itoa(length)+" bytes", digest.Of(b), sha256.Sum256(b))
	}
	b := someBytes(dice, 50021)
	wantDigest(t, "many bytes, plainly", digest.Of(b), defined(b))
}

// P5.1: from 2^29 bytes on, the number of bits is no word any more.
func TestGreatLength(t *testing.T) {
	if testing.Short() {
		t.Skip("takes some seconds")
	}
	dice := newDice()
	piece := someBytes(dice, 1<<20)
	h, want := digest.New(), sha256.New()
	for range 1 << 9 {
		h.Write(piece)
		want.Write(piece)
	}
	wantDigest(t, "2^29 bytes", h.Sum(), [32]byte(want.Sum(nil)))
	h.Write(piece[:5])
	want.Write(piece[:5])
	wantDigest(t, "2^29 bytes and five", h.Sum(), [32]byte(want.Sum(nil)))
	if h.Len() != 1<<29+5 {
		t.Error("Len:", h.Len())
	}
}

// P5.2: Text, each value at each place.
func TestText(t *testing.T) {
	var d [32]byte
	if text := digest.Text(d); text != strings.Repeat("0", 64) {
		t.Error("noughts:", text)
	}
	for place := range d {
		for c := range 256 {
			d := [32]byte{0: 1, 31: 0xfe}
			d[place] = byte(c)
			text := digest.Text(d)
			if want := hex.EncodeToString(d[:]); text != want {
				t.Fatalf("byte %d is %x: %s, want %s", place, c, text, want)
			}
			if len(text) != 64 || strings.Trim(text, "0123456789abcdef") != "" {
				t.Fatalf("other digits: %s", text)
			}
		}
	}
	rising := [32]byte{}
	for i := range rising {
		rising[i] = byte(8*i + i)
	}
	const want = "0009121b242d363f48515a636c757e879099a2abb4bdc6cfd8e1eaf3fc050e17"
	if text := digest.Text(rising); text != want {
		t.Errorf("rising: %s, want %s", text, want)
	}
}

// P5.1: a new hash has no bytes, and each one is of its own.
func TestNew(t *testing.T) {
	h, other := digest.New(), digest.New()
	if h == nil || other == nil || h == other {
		t.Fatal("New answers nil, or one hash twice")
	}
	wantHash(t, "new", h, nil)
	h.Write([]byte("a"))
	wantHash(t, "written to", h, []byte("a"))
	wantHash(t, "beside it", other, nil)
	other.Write([]byte("bc"))
	wantHash(t, "written to", other, []byte("bc"))
	wantHash(t, "beside it", h, []byte("a"))
	wantHash(t, "made later", digest.New(), nil)
}

// P5.1: Sum, Len and Twin change nothing, at each length, however often they are asked.
func TestAskedInBetween(t *testing.T) {
	dice := newDice()
	all := someBytes(dice, 200)
	h := digest.New()
	for i := range all {
		for range 3 {
			wantHash(t, "asked "+strconv.Itoa(i), h, all[:i])
			h.Twin()
		}
		h.Write(all[i : i+1])
	}
	wantHash(t, "at the end", h, all)
}

// P5.1: a twin made at each place of a block; then the one, the other, or both are written to, in either order.
func TestTwin(t *testing.T) {
	dice := newDice()
	for begun := range 140 {
		for _, more := range []int{0, 1, 2, 7, 63, 64, 65, 130} {
			start, mine, its := someBytes(dice, begun), someBytes(dice, more), someBytes(dice, 1+dice.IntN(130))
			h := written(start)
			twin, still := h.Twin(), h.Twin()
			wantHash(t, "the twin at first", twin, start)
			h.Write(mine)
			wantHash(t, "the twin, when the first one was written to", twin, start)
			twin.Write(its)
			wantHash(t, "the first one", h, slices.Concat(start, mine))
			wantHash(t, "the twin", twin, slices.Concat(start, its))
			h.Write(its)
			twin.Write(mine)
			wantHash(t, "the first one, again", h, slices.Concat(start, mine, its))
			wantHash(t, "the twin, again", twin, slices.Concat(start, its, mine))
			wantHash(t, "the one that nobody wrote to", still, start)
		}
	}
}

// P5.1: byte by byte, in turns, hashes that stood at the same place in a block.
func TestTwinsInTurns(t *testing.T) {
	dice := newDice()
	for _, begun := range []int{0, 1, 5, 31, 32, 33, 55, 56, 62, 63, 64} {
		start := someBytes(dice, begun)
		hashes := []*digest.Hash{written(start)}
		has := [][]byte{start}
		for range 4 { // each is a twin of the one before it
			last := hashes[len(hashes)-1]
			hashes, has = append(hashes, last.Twin()), append(has, start)
		}
		for range 100 {
			for i, h := range hashes {
				c := someBytes(dice, 1)
				h.Write(c)
				has[i] = slices.Concat(has[i], c)
			}
		}
		for i, h := range hashes {
			wantHash(t, "in turns", h, has[i])
		}
	}
}

// P5.1: a twin that is twinned, each written to before and behind it.
func TestTwinOfTwin(t *testing.T) {
	dice := newDice()
	for range 300 {
		a, b, c, d := someBytes(dice, dice.IntN(100)), someBytes(dice, dice.IntN(100)), someBytes(dice, dice.IntN(100)), someBytes(dice, dice.IntN(100))
		first := written(a)
		second := first.Twin()
		second.Write(b)
		third := second.Twin()
		third.Write(c)
		second.Write(d)
		first.Write(c)
		third.Write(a)
		wantHash(t, "the first one", first, slices.Concat(a, c))
		wantHash(t, "its twin", second, slices.Concat(a, b, d))
		wantHash(t, "the twin's twin", third, slices.Concat(a, b, c, a))
	}
	h := digest.New()
	if twin := h.Twin(); twin == nil || twin == h {
		t.Error("a twin is not another hash")
	}
}

// P5.1, P5.3: hashes that are written to, asked and twinned by the dice, beside lists of what they have.
func TestAnyOrder(t *testing.T) {
	dice := newDice()
	hashes, has := []*digest.Hash{digest.New()}, [][]byte{nil}
	for range 5000 {
		i := dice.IntN(len(hashes))
		switch dice.IntN(5) {
		case 0, 1:
			piece := someBytes(dice, dice.IntN(80))
			hashes[i].Write(piece)
			has[i] = slices.Concat(has[i], piece)
		case 2:
			wantDigest(t, "Sum", hashes[i].Sum(), sha256.Sum256(has[i]))
		case 3:
			if hashes[i].Len() != len(has[i]) {
				t.Fatalf("Len %d, want %d", hashes[i].Len(), len(has[i]))
			}
		case 4:
			if len(hashes) < 12 {
				hashes, has = append(hashes, hashes[i].Twin()), append(has, has[i])
			} else {
				j := dice.IntN(len(hashes))
				hashes[j], has[j] = hashes[i].Twin(), has[i]
			}
		}
	}
	for i, h := range hashes {
		wantHash(t, "at the end", h, has[i])
	}
}

// P5.1: a nil hash.
func TestNil(t *testing.T) {
	var none *digest.Hash
	for range 2 {
		wantHash(t, "nil", none, nil)
		if none.Twin() != nil {
			t.Error("Twin of nil is a hash")
		}
		none.Write([]byte("abc"))
		none.Write(make([]byte, 1000))
		none.Write(nil)
	}
	wantHash(t, "nil", none, nil)
	if text := digest.Text(none.Sum()); text != textOfNone {
		t.Error("Sum of nil:", text)
	}
	none.Twin().Write([]byte("abc"))
	wantHash(t, "the twin of nil", none.Twin(), nil)
}

// P5.3: bytes cut at each place, with nothing, nil and an empty list in between, and asked or not.
func TestCutAnywhere(t *testing.T) {
	dice := newDice()
	for _, length := range []int{0, 1, 2, 55, 56, 63, 64, 65, 119, 120, 127, 128, 129, 192, 300} {
		b := someBytes(dice, length)
		want := defined(b)
		for cut := range length + 1 {
			wantDigest(t, "two pieces", written(b[:cut], b[cut:]).Sum(), want)
			wantDigest(t, "and nil", written(nil, b[:cut], nil, b[cut:], nil).Sum(), want)
			wantDigest(t, "and empty", written(b[:0], b[:cut], []byte{}, b[cut:], b[:0]).Sum(), want)
			h := written(b[:cut])
			h.Sum()
			h.Len()
			h.Twin().Write(b)
			h.Write(b[cut:])
			wantHash(t, "asked in between", h, b)
		}
	}
}

// P5.3: three pieces, cut at each two places.
func TestCutTwice(t *testing.T) {
	dice := newDice()
	for _, length := range []int{64, 130} {
		b := someBytes(dice, length)
		want := defined(b)
		for second := range length + 1 {
			for first := range second + 1 {
				wantDigest(t, "three pieces", written(b[:first], b[first:second], b[second:]).Sum(), want)
			}
		}
	}
}

// P5.3: pieces that are all of one length, up to beyond three blocks.
func TestPiecesAlike(t *testing.T) {
	dice := newDice()
	b := someBytes(dice, 1000)
	want := defined(b)
	for length := 1; length < 200; length++ {
		h := digest.New()
		for piece := range slices.Chunk(b, length) {
			h.Write(piece)
		}
		wantDigest(t, strconv.Itoa(length)+" bytes a piece", h.Sum(), want)
	}
}

// P5.3: many pieces by the dice, asked in between.
func TestManyPieces(t *testing.T) {
	dice := newDice()
	for range 200 {
		h := digest.New()
		var all []byte
		for range dice.IntN(30) {
			var piece []byte
			switch dice.IntN(4) {
			case 0: // nil
			case 1:
				piece = []byte{}
			case 2:
				piece = someBytes(dice, dice.IntN(10))
			case 3:
				piece = someBytes(dice, dice.IntN(300))
			}
			h.Write(piece)
			all = append(all, piece...)
			if dice.IntN(2) == 0 {
				wantHash(t, "in between", h, all)
			}
		}
		wantHash(t, "many pieces", h, all)
		wantDigest(t, "Of the same", digest.Of(all), h.Sum())
	}
}

// R3: neither what is handed in nor the room behind it is changed.
func TestArgumentsStay(t *testing.T) {
	dice := newDice()
	for length := range 200 {
		b := roomy(someBytes(dice, length))
		was := bytes.Clone(b[:cap(b)])
		digest.Of(b)
		h := written(b)
		h.Sum()
		h.Twin().Write([]byte("mine"))
		h.Write([]byte("yours"))
		h.Write(someBytes(dice, 100))
		h.Sum()
		if !bytes.Equal(b[:cap(b)], was) {
			t.Fatalf("%d bytes were changed, or the room behind them", length)
		}
	}
}

// R3: what was handed to Write is not kept: whoever writes over it does not change the hash, nor its twins.
func TestNothingIsKept(t *testing.T) {
	dice := newDice()
	for first := range 140 {
		for _, second := range []int{0, 1, 3, 63, 64, 65, 128} {
			a, b := roomy(someBytes(dice, first)), roomy(someBytes(dice, second))
			all := slices.Concat(a, b)
			h := digest.New()
			h.Write(a)
			twin := h.Twin()
			overwrite(a)
			h.Write(b)
			overwrite(b)
			wantHash(t, "written over", h, all)
			wantHash(t, "a twin's, written over", twin, all[:first])
		}
	}
}

// R2: the same bytes have the same digest, whoever wrote what elsewhere; R3: an answer that is written over changes no other one.
func TestAnswersAreNew(t *testing.T) {
	h := written([]byte("abc"))
	sum := h.Sum()
	for i := range sum {
		sum[i] ^= 0xff
	}
	if digest.Text(h.Sum()) != textOfABC || digest.Text(digest.Of([]byte("abc"))) != textOfABC {
		t.Error("a digest was changed from without")
	}
	digest.Of(make([]byte, 500))
	wantHash(t, "after another", h, []byte("abc"))
	wantDigest(t, "Of after another", digest.Of([]byte("abc")), h.Sum())
}
