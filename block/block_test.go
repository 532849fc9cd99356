package block_test

import (
	"bytes"
	"hash/crc32"
	"math"
	"math/rand/v2"
	"slices"
	"testing"

	"tabulary/api"
	"tabulary/block"
)

func newDice() *rand.Rand { return rand.New(rand.NewPCG(6, 6)) }

func someBytes(dice *rand.Rand, length int) []byte {
	b := make([]byte, length)
	for i := range b {
		b[i] = byte(dice.UintN(256))
	}
	return b
}

// fullBytes are bytes none of which is 0, so that one that is left out, or laid elsewhere, is seen.
func fullBytes(dice *rand.Rand, length int) []byte {
	b := make([]byte, length)
	for i := range b {
		b[i] = byte(1 + dice.UintN(255))
	}
	return b
}

func someBlock(dice *rand.Rand, length int) api.Block {
	return api.Block{Key: dice.Uint64(), Stripe: dice.Uint32(), Shard: uint8(dice.UintN(256)), Data: someBytes(dice, length)}
}

// librarySum is the sum as the library makes it, so that it is not the program itself that the bytes are held against.
func librarySum(b []byte) uint32 { return crc32.Checksum(b, crc32.MakeTable(crc32.Castagnoli)) }

// table are a block's bytes, place by place as the chapter's table tells them.
func table(b api.Block) []byte {
	raw := make([]byte, 128)
	raw[0], raw[1], raw[2], raw[3] = 0x54, 0x42, 0x4c, 0x4b
	raw[4], raw[5], raw[6], raw[7] = byte(b.Key>>56), byte(b.Key>>48), byte(b.Key>>40), byte(b.Key>>32)
	raw[8], raw[9], raw[10], raw[11] = byte(b.Key>>24), byte(b.Key>>16), byte(b.Key>>8), byte(b.Key)
	raw[12], raw[13], raw[14], raw[15] = byte(b.Stripe>>24), byte(b.Stripe>>16), byte(b.Stripe>>8), byte(b.Stripe)
	raw[16] = b.Shard
	raw[17] = byte(len(b.Data))
	for i, c := range b.Data {
		raw[28+i] = c
	}
	return summed(raw)
}

// summed are 128 bytes with their last four made the sum of the others.
func summed(raw []byte) []byte {
	s := bytes.Clone(raw)
	sum := librarySum(s[:124])
	s[124], s[125], s[126], s[127] = byte(sum), byte(sum>>8), byte(sum>>16), byte(sum>>24)
	return s
}

// with are bytes one of which is another.
func with(raw []byte, at int, c byte) []byte {
	s := bytes.Clone(raw)
	s[at] = c
	return s
}

// flipped is b with the bits of a pattern turned, whose lowest one falls on the bit of that number: bits of a byte from the lowest on, bytes from the first on. What falls behind the end is left out.
func flipped(b []byte, first int, pattern uint32) []byte {
	c := bytes.Clone(b)
	for bit := range 32 {
		at := first + bit
		if pattern>>bit&1 == 1 && at < 8*len(c) {
			c[at/8] ^= 1 << (at % 8)
		}
	}
	return c
}

func same(a, b api.Block) bool {
	return a.Key == b.Key && a.Stripe == b.Stripe && a.Shard == b.Shard && bytes.Equal(a.Data, b.Data)
}

func packed(t *testing.T, b api.Block) []byte {
	t.Helper()
	raw, err := block.Pack(b)
	if err != api.OK {
		t.Fatalf("Pack(%v): %v", b, err)
	}
	return raw
}

func wantPacked(t *testing.T, what string, b api.Block) {
	t.Helper()
	raw, err := block.Pack(b)
	if err != api.OK || !bytes.Equal(raw, table(b)) {
		t.Errorf("%s: Pack(%v): %x %v, not %x", what, b, raw, err, table(b))
	}
}

func wantLong(t *testing.T, b api.Block) {
	t.Helper()
	raw, err := block.Pack(b)
	if err != api.ErrLong || len(raw) != 0 {
		t.Errorf("Pack of %d bytes: %x %v", len(b.Data), raw, err)
	}
}

func wantParsed(t *testing.T, what string, raw []byte, want api.Block) {
	t.Helper()
	b, err := block.Parse(raw)
	if err != api.OK || !same(b, want) {
		t.Errorf("%s: Parse(%x): %v %v, not %v", what, raw, b, err, want)
	}
}

// wantRefused asks Is too, which is false of what Parse does not take, whichever numbers stand in it.
func wantRefused(t *testing.T, what string, raw []byte, want api.Errno) {
	t.Helper()
	b, err := block.Parse(raw)
	if err != want || !same(b, api.Block{}) {
		t.Errorf("%s: Parse(%x): %v %v, not %v", what, raw, b, err, want)
	}
	if block.Is(raw, 0, 0, 0) {
		t.Errorf("%s: Is(%x, 0, 0, 0)", what, raw)
	}
	if len(raw) >= 17 && block.Is(raw, keyOf(raw), stripeOf(raw), raw[16]) {
		t.Errorf("%s: Is(%x) of its own key, stripe and shard", what, raw)
	}
}

func keyOf(raw []byte) uint64 {
	var key uint64
	for _, c := range raw[4:12] {
		key = key*256 + uint64(c)
	}
	return key
}

func stripeOf(raw []byte) uint32 {
	var stripe uint32
	for _, c := range raw[12:16] {
		stripe = stripe*256 + uint32(c)
	}
	return stripe
}

// roomy is b with room behind it that is not the call's to write to.
func roomy(b []byte) []byte {
	r := append(bytes.Clone(b), bytes.Repeat([]byte{0xa5}, 200)...)
	return r[:len(b)]
}

// overwrite writes to all that a list can reach.
func overwrite(b []byte) {
	b = b[:cap(b)]
	for i := range b {
		b[i] ^= 0x5a
	}
}

// The examples of the chapter's table, the sum told to the bit.
func TestExamples(t *testing.T) {
	b := api.Block{Key: 1, Stripe: 2, Shard: 3, Data: []byte("ab")}
	raw := packed(t, b)
	want := slices.Concat([]byte("\x54\x42\x4c\x4b\x00\x00\x00\x00\x00\x00\x00\x01\x00\x00\x00\x02\x03\x02"), make([]byte, 10), []byte("ab"), make([]byte, 94), []byte("\x1f\xe6\xad\x71"))
	if !bytes.Equal(raw, want) {
		t.Errorf("Pack: %x, not %x", raw, want)
	}
	wantParsed(t, "the first one's bytes", want, b)
	if !block.Is(raw, 1, 2, 3) || block.Is(raw, 1, 2, 4) {
		t.Error("Is of the first one's bytes")
	}
	wantLong(t, api.Block{Data: make([]byte, 97)})
	wantRefused(t, "none", nil, api.ErrShape)
	wantRefused(t, "128 noughts", make([]byte, 128), api.ErrMark)
}

// P6.1: data of each length that may be.
func TestPackLengths(t *testing.T) {
	dice := newDice()
	wantPacked(t, "nothing at all", api.Block{})
	wantPacked(t, "no data, nil", api.Block{Key: 7, Stripe: 8, Shard: 9, Data: nil})
	wantPacked(t, "no data, empty", api.Block{Key: 7, Stripe: 8, Shard: 9, Data: []byte{}})
	for length := range 97 {
		wantPacked(t, "any data", someBlock(dice, length))
		wantPacked(t, "data without noughts", api.Block{Key: 1, Stripe: 2, Shard: 3, Data: fullBytes(dice, length)})
		wantPacked(t, "noughts", api.Block{Key: 1, Stripe: 2, Shard: 3, Data: make([]byte, length)})
	}
}

// P6.1: longer data, those among them whose length is one that may be when it is told in one byte, or two.
func TestPackLong(t *testing.T) {
	dice := newDice()
	lengths := []int{1000, 1<<16 - 1, 1 << 16, 1<<16 + 1, 1<<16 + 96, 1 << 17, 1 << 24}
	for length := 97; length < 600; length++ {
		lengths = append(lengths, length)
	}
	for _, length := range lengths {
		wantLong(t, api.Block{Data: make([]byte, length)})
		wantLong(t, api.Block{Key: math.MaxUint64, Stripe: math.MaxUint32, Shard: 255, Data: fullBytes(dice, length)})
	}
}

// P6.1: keys, stripes and shards at both ends of their ranges, and each bit of them.
func TestPackNumbers(t *testing.T) {
	data := []byte("data")
	for _, key := range []uint64{0, 1, math.MaxUint64 - 1, math.MaxUint64, 0x0123456789abcdef} {
		for _, stripe := range []uint32{0, 1, math.MaxUint32 - 1, math.MaxUint32, 0x01234567} {
			for _, shard := range []uint8{0, 1, 127, 128, 254, 255} {
				wantPacked(t, "ends of the ranges", api.Block{Key: key, Stripe: stripe, Shard: shard, Data: data})
			}
		}
	}
	for bit := range 64 {
		wantPacked(t, "one bit of the key", api.Block{Key: 1 << bit, Data: data})
		wantPacked(t, "one bit of the stripe", api.Block{Stripe: 1 << (bit % 32), Data: data})
		wantPacked(t, "one bit of the shard", api.Block{Shard: 1 << (bit % 8), Data: data})
	}
}

// P6.1 and P6.2: whatever the shard, in both directions.
func TestEachShard(t *testing.T) {
	for shard := range 256 {
		b := api.Block{Key: 5, Stripe: 6, Shard: uint8(shard), Data: []byte{7}}
		wantPacked(t, "each shard", b)
		wantParsed(t, "each shard", table(b), b)
	}
}

// P6.2: bytes of each length but 128, of a block and of others.
func TestParseShape(t *testing.T) {
	dice := newDice()
	whole := slices.Concat(table(someBlock(dice, 96)), table(someBlock(dice, 0)), table(someBlock(dice, 5)))
	wantRefused(t, "nil", nil, api.ErrShape)
	wantRefused(t, "empty", []byte{}, api.ErrShape)
	for length := range len(whole) + 1 {
		if length == 128 {
			continue
		}
		wantRefused(t, "a block's beginning, or more than it", whole[:length], api.ErrShape)
		wantRefused(t, "any bytes", someBytes(dice, length), api.ErrShape)
		wantRefused(t, "noughts", make([]byte, length), api.ErrShape)
	}
	wantRefused(t, "many bytes", make([]byte, 1<<17), api.ErrShape)
	wantRefused(t, "a beginning, with the rest in the room behind it", whole[:127:128], api.ErrShape)
}

// P6.2: a block one byte short or long, whose own last four bytes are the sum of all ahead of them.
func TestParseShapeWithSum(t *testing.T) {
	raw := table(api.Block{Key: 1, Stripe: 2, Shard: 3, Data: []byte("ab")})
	for length := 4; length < 300; length++ {
		if length == 124 {
			continue
		}
		body := append(bytes.Clone(raw[:min(length, 124)]), make([]byte, max(length-124, 0))...)
		sum := librarySum(body)
		body = append(body, byte(sum), byte(sum>>8), byte(sum>>16), byte(sum>>24))
		wantRefused(t, "another length with its own sum", body, api.ErrShape)
	}
}

// P6.2: each of the first four bytes made each other byte, with the sum of what stands there now, and with the old one.
func TestParseMark(t *testing.T) {
	raw := table(api.Block{Key: 1, Stripe: 2, Shard: 3, Data: []byte("ab")})
	for at := range 4 {
		for c := 1; c < 256; c++ {
			wrong := with(raw, at, raw[at]^byte(c))
			wantRefused(t, "a wrong mark", wrong, api.ErrMark)
			wantRefused(t, "a wrong mark, summed", summed(wrong), api.ErrMark)
		}
	}
	turned := bytes.Clone(raw)
	slices.Reverse(turned[:4])
	wantRefused(t, "the mark's lowest byte first", summed(turned), api.ErrMark)
	wantRefused(t, "128 bytes FF", bytes.Repeat([]byte{0xff}, 128), api.ErrMark)
	wantRefused(t, "no mark, summed", summed(make([]byte, 128)), api.ErrMark)
}

// P6.2: each of the last four bytes made each other byte; sums told otherwise than the table tells them.
func TestParseSum(t *testing.T) {
	dice := newDice()
	for _, length := range []int{0, 2, 96} {
		raw := table(someBlock(dice, length))
		for at := 124; at < 128; at++ {
			for c := 1; c < 256; c++ {
				wantRefused(t, "a wrong sum", with(raw, at, raw[at]^byte(c)), api.ErrSum)
			}
		}
		turned := bytes.Clone(raw)
		slices.Reverse(turned[124:])
		wantRefused(t, "the sum's greatest byte first", turned, api.ErrSum)
		wantRefused(t, "noughts for the sum", slices.Concat(raw[:124], make([]byte, 4)), api.ErrSum)
		ieee := crc32.ChecksumIEEE(raw[:124])
		wantRefused(t, "another sum", slices.Concat(raw[:124], []byte{byte(ieee), byte(ieee >> 8), byte(ieee >> 16), byte(ieee >> 24)}), api.ErrSum)
	}
}

// P6.2: what is between the mark and the sum, each byte changed: the sum is no more theirs, whatever else is wrong by it.
func TestParseSumOfChanged(t *testing.T) {
	raw := table(api.Block{Key: 1, Stripe: 2, Shard: 3, Data: []byte("ab")})
	for at := 4; at < 124; at++ {
		for c := 1; c < 256; c++ {
			wantRefused(t, "a changed byte", with(raw, at, raw[at]^byte(c)), api.ErrSum)
		}
	}
}

// P6.2: byte 17 up to 96 and above it, with the sum made right again.
func TestParseCount(t *testing.T) {
	dice := newDice()
	full := table(api.Block{Key: 1, Stripe: 2, Shard: 3, Data: fullBytes(dice, 96)})
	empty := table(api.Block{Key: 1, Stripe: 2, Shard: 3})
	wantParsed(t, "96 bytes", full, api.Block{Key: 1, Stripe: 2, Shard: 3, Data: full[28:124]})
	for count := range 97 {
		wantParsed(t, "noughts that are data", summed(with(empty, 17, byte(count))), api.Block{Key: 1, Stripe: 2, Shard: 3, Data: make([]byte, count)})
		if count < 96 {
			wantRefused(t, "fewer than stand there", summed(with(full, 17, byte(count))), api.ErrBlock)
		}
	}
	for count := 97; count < 256; count++ {
		wantRefused(t, "more than may be", summed(with(full, 17, byte(count))), api.ErrBlock)
		wantRefused(t, "more than may be, noughts", summed(with(empty, 17, byte(count))), api.ErrBlock)
	}
}

// P6.2: each byte from 18 to 27 not 0, with the sum made right again.
func TestParseSpare(t *testing.T) {
	dice := newDice()
	for _, length := range []int{0, 1, 50, 95, 96} {
		raw := table(someBlock(dice, length))
		for at := 18; at < 28; at++ {
			for c := 1; c < 256; c++ {
				wantRefused(t, "a spare byte", summed(with(raw, at, byte(c))), api.ErrBlock)
			}
		}
	}
}

// P6.2: each byte behind data of each length not 0, with the sum made right again; the data themselves may be anything.
func TestParseBehind(t *testing.T) {
	dice := newDice()
	for length := range 97 {
		raw := table(someBlock(dice, length))
		for at := 28 + length; at < 124; at++ {
			for _, c := range []byte{1, 0x80, 0xff, byte(1 + dice.UintN(255))} {
				wantRefused(t, "a byte behind the data", summed(with(raw, at, c)), api.ErrBlock)
			}
		}
		for at := 28; at < 28+length; at++ {
			changed := summed(with(raw, at, byte(dice.UintN(256))))
			wantParsed(t, "a byte of the data", changed, api.Block{Key: keyOf(raw), Stripe: stripeOf(raw), Shard: raw[16], Data: changed[28 : 28+length]})
		}
	}
	raw := table(api.Block{Key: 1})
	for c := 1; c < 256; c++ {
		wantRefused(t, "the first byte behind no data", summed(with(raw, 28, byte(c))), api.ErrBlock)
		wantRefused(t, "the last byte behind no data", summed(with(raw, 123, byte(c))), api.ErrBlock)
	}
}

// P6.2: of all that is wrong at once the first one is told: how many bytes, the mark, the sum, the fields.
func TestParseFirstError(t *testing.T) {
	for wrong := range 64 {
		raw := table(api.Block{Key: 1, Stripe: 2, Shard: 3, Data: []byte("ab")})
		want := api.OK
		if wrong&1 != 0 {
			raw, want = summed(with(raw, 17, 97)), api.ErrBlock
		}
		if wrong&2 != 0 {
			raw, want = summed(with(raw, 20, 1)), api.ErrBlock
		}
		if wrong&4 != 0 {
			raw, want = summed(with(raw, 123, 1)), api.ErrBlock
		}
		if wrong&16 != 0 {
			raw = summed(with(raw, 0, 0))
		}
		if wrong&8 != 0 {
			raw, want = with(raw, 127, raw[127]^1), api.ErrSum
		}
		if wrong&16 != 0 {
			want = api.ErrMark
		}
		if wrong&32 != 0 {
			for _, other := range [][]byte{raw[:127], raw[1:], append(bytes.Clone(raw), 0)} {
				wantRefused(t, "how many bytes, ahead of all", other, api.ErrShape)
			}
			continue
		}
		if want == api.OK {
			wantParsed(t, "nothing wrong", raw, api.Block{Key: 1, Stripe: 2, Shard: 3, Data: []byte("ab")})
			continue
		}
		wantRefused(t, "the first one", raw, want)
	}
}

// P6.3: a block's own key, stripe and shard, and each of them another by one bit.
func TestIs(t *testing.T) {
	dice := newDice()
	blocks := []api.Block{{}, {Key: 1, Stripe: 2, Shard: 3, Data: []byte("ab")}, {Key: math.MaxUint64, Stripe: math.MaxUint32, Shard: 255, Data: fullBytes(dice, 96)}}
	for range 20 {
		blocks = append(blocks, someBlock(dice, dice.IntN(97)))
	}
	for _, b := range blocks {
		raw := table(b)
		if !block.Is(raw, b.Key, b.Stripe, b.Shard) {
			t.Errorf("Is(%x) of its own: false", raw)
		}
		for bit := range 64 {
			if block.Is(raw, b.Key^1<<bit, b.Stripe, b.Shard) {
				t.Errorf("Is(%x) of another key", raw)
			}
			if block.Is(raw, b.Key, b.Stripe^1<<(bit%32), b.Shard) {
				t.Errorf("Is(%x) of another stripe", raw)
			}
		}
		for c := 1; c < 256; c++ {
			if block.Is(raw, b.Key, b.Stripe, b.Shard^uint8(c)) {
				t.Errorf("Is(%x) of another shard", raw)
			}
		}
		if block.Is(raw, b.Key+1, b.Stripe+1, b.Shard+1) {
			t.Errorf("Is(%x) of other ones all", raw)
		}
	}
}

// P6.3: numbers that stand in each other's place are not the block's.
func TestIsOfExchanged(t *testing.T) {
	raw := table(api.Block{Key: 1, Stripe: 2, Shard: 3})
	for _, n := range [][3]int{{1, 3, 2}, {2, 1, 3}, {2, 3, 1}, {3, 1, 2}, {3, 2, 1}} {
		if block.Is(raw, uint64(n[0]), uint32(n[1]), uint8(n[2])) {
			t.Errorf("Is of %v, in another order", n)
		}
	}
}

// P6.3: what Parse does not take is no block, whatever is wrong with it (wantRefused asks Is of its own key, stripe and shard).
func TestIsOfRefused(t *testing.T) {
	raw := table(api.Block{Data: []byte("ab")})
	if !block.Is(raw, 0, 0, 0) {
		t.Fatal("Is of noughts: false")
	}
	wantRefused(t, "none", nil, api.ErrShape)
	wantRefused(t, "too short", raw[:127], api.ErrShape)
	wantRefused(t, "too long", append(bytes.Clone(raw), 0), api.ErrShape)
	wantRefused(t, "another mark", summed(with(raw, 3, 0)), api.ErrMark)
	wantRefused(t, "another sum", with(raw, 124, raw[124]^1), api.ErrSum)
	wantRefused(t, "too many bytes", summed(with(raw, 17, 97)), api.ErrBlock)
	wantRefused(t, "a spare byte", summed(with(raw, 27, 1)), api.ErrBlock)
	wantRefused(t, "a byte behind", summed(with(raw, 30, 1)), api.ErrBlock)
}

// P6.4: Parse of Pack's bytes.
func TestParseOfPack(t *testing.T) {
	dice := newDice()
	wantParsed(t, "nothing at all", packed(t, api.Block{}), api.Block{})
	for length := range 97 {
		noughts := api.Block{Key: 1, Stripe: 2, Shard: 3, Data: make([]byte, length)}
		wantParsed(t, "noughts", packed(t, noughts), noughts)
		for range 5 {
			b := someBlock(dice, length)
			wantParsed(t, "there and back", packed(t, b), b)
		}
	}
	for _, key := range []uint64{0, 1, math.MaxInt64, math.MaxInt64 + 1, math.MaxUint64} {
		for _, stripe := range []uint32{0, 1, math.MaxInt32, math.MaxInt32 + 1, math.MaxUint32} {
			for _, shard := range []uint8{0, 1, 127, 128, 255} {
				b := api.Block{Key: key, Stripe: stripe, Shard: shard, Data: []byte{1, 2, 0}}
				wantParsed(t, "ends of the ranges", packed(t, b), b)
			}
		}
	}
}

// P6.4: a block within a block's data is data like others.
func TestBlockWithinBlock(t *testing.T) {
	inner := packed(t, api.Block{Key: 9, Stripe: 8, Shard: 7, Data: []byte("inner")})
	outer := api.Block{Key: 1, Stripe: 2, Shard: 3, Data: inner[:96]}
	wantPacked(t, "a block within", outer)
	wantParsed(t, "a block within", packed(t, outer), outer)
}

// P6.4: Pack of what Parse tells, for bytes that were made by the table, not by Pack; of any others that Parse takes, too.
func TestPackOfParse(t *testing.T) {
	dice := newDice()
	for range 3000 {
		raw := table(someBlock(dice, dice.IntN(97)))
		for range dice.IntN(3) {
			raw[4+dice.IntN(120)] = byte(dice.UintN(3))
		}
		raw = summed(raw)
		b, err := block.Parse(raw)
		if err != api.OK {
			continue
		}
		if back := packed(t, b); !bytes.Equal(back, raw) {
			t.Fatalf("Pack of Parse(%x): %x", raw, back)
		}
	}
}

// P6.4: blocks that are unlike in one thing alone, noughts more or fewer at the data's end among them.
func TestUnlikeBlocks(t *testing.T) {
	dice := newDice()
	var blocks []api.Block
	base := someBlock(dice, 40)
	blocks = append(blocks, base)
	for bit := range 64 {
		blocks = append(blocks, api.Block{Key: base.Key ^ 1<<bit, Stripe: base.Stripe, Shard: base.Shard, Data: base.Data})
	}
	for bit := range 32 {
		blocks = append(blocks, api.Block{Key: base.Key, Stripe: base.Stripe ^ 1<<bit, Shard: base.Shard, Data: base.Data})
	}
	for c := 1; c < 256; c++ {
		blocks = append(blocks, api.Block{Key: base.Key, Stripe: base.Stripe, Shard: base.Shard ^ uint8(c), Data: base.Data})
	}
	for bit := range 8 * len(base.Data) {
		blocks = append(blocks, api.Block{Key: base.Key, Stripe: base.Stripe, Shard: base.Shard, Data: flipped(base.Data, bit, 1)})
	}
	for length := range 97 {
		blocks = append(blocks, api.Block{Key: base.Key, Stripe: base.Stripe, Shard: base.Shard, Data: make([]byte, length)})
	}
	seen := map[string]int{}
	for i, b := range blocks {
		raw := string(packed(t, b))
		if first, ok := seen[raw]; ok {
			t.Errorf("%v and %v have the same bytes", blocks[first], b)
		}
		seen[raw] = i
	}
}

// P6.5: each single bit, and each byte made each other byte.
func TestChangedBitsAndBytes(t *testing.T) {
	dice := newDice()
	blocks := []api.Block{{}, {Key: 1, Stripe: 2, Shard: 3, Data: []byte("ab")}, someBlock(dice, 96)}
	for _, b := range blocks {
		raw := packed(t, b)
		for bit := range 8 * len(raw) {
			wantChanged(t, flipped(raw, bit, 1), bit/8 < 4)
		}
		for at := range raw {
			for c := 1; c < 256; c++ {
				wantChanged(t, with(raw, at, raw[at]^byte(c)), at < 4)
			}
		}
	}
}

// P6.5: anywhere within 32 bits side by side: all of them, the outer two, and any others, from each bit on.
func TestChangedRuns(t *testing.T) {
	dice := newDice()
	for _, length := range []int{0, 2, 96} {
		raw := packed(t, someBlock(dice, length))
		for first := range 8*len(raw) - 31 {
			patterns := []uint32{math.MaxUint32, 1 | 1<<31, 3, 0x80000003, 0x82f63b79, 0x1edc6f41}
			for range 10 {
				patterns = append(patterns, dice.Uint32()|1)
			}
			for _, pattern := range patterns {
				wantChanged(t, flipped(raw, first, pattern), first/8 < 4)
			}
		}
	}
}

// wantChanged: bytes of which a run was changed are told as such, by the mark if that was touched, else by the sum.
func wantChanged(t *testing.T, raw []byte, mark bool) {
	t.Helper()
	want := api.ErrSum
	if mark {
		want = api.ErrMark
	}
	wantRefused(t, "changed bytes", raw, want)
}

// R3: no argument is changed, nor the room behind its end.
func TestArgumentsStay(t *testing.T) {
	dice := newDice()
	for _, length := range []int{0, 1, 50, 96, 97, 300} {
		b := someBlock(dice, length)
		b.Data = roomy(b.Data)
		before := bytes.Clone(b.Data[:cap(b.Data)])
		raw, _ := block.Pack(b)
		overwrite(raw)
		if !bytes.Equal(b.Data[:cap(b.Data)], before) {
			t.Errorf("Pack changed its %d bytes, or what is behind them", length)
		}
	}
	good := table(someBlock(dice, 50))
	for _, raw := range [][]byte{good, table(api.Block{}), table(someBlock(dice, 96)), good[:127], good[:0], with(good, 0, 0), with(good, 127, good[127]^1), summed(with(good, 17, 200)), summed(with(good, 18, 1)), summed(with(good, 123, 1))} {
		raw = roomy(raw)
		before := bytes.Clone(raw[:cap(raw)])
		b, _ := block.Parse(raw)
		overwrite(b.Data)
		block.Is(raw, b.Key, b.Stripe, b.Shard)
		if !bytes.Equal(raw[:cap(raw)], before) {
			t.Errorf("Parse or Is changed its %d bytes, or what is behind them", len(raw))
		}
	}
}

// R3: what was answered stays what it is when the caller writes over what was handed in.
func TestAnswersAreNew(t *testing.T) {
	dice := newDice()
	for length := range 97 {
		b := someBlock(dice, length)
		want := api.Block{Key: b.Key, Stripe: b.Stripe, Shard: b.Shard, Data: bytes.Clone(b.Data)}
		raw := packed(t, b)
		overwrite(b.Data)
		if !bytes.Equal(raw, table(want)) {
			t.Fatalf("Pack kept the data of %d bytes", length)
		}
		told, err := block.Parse(raw)
		overwrite(raw)
		if err != api.OK || !same(told, want) {
			t.Fatalf("Parse kept raw: %v %v, not %v", told, err, want)
		}
	}
}

// R2 and R3: no later answer shows what the caller writes into an earlier one, room behind it too.
func TestAnswersAreTheCallers(t *testing.T) {
	dice := newDice()
	for _, length := range []int{0, 1, 50, 95, 96} {
		b := someBlock(dice, length)
		first, second := packed(t, b), packed(t, b)
		overwrite(first)
		if !bytes.Equal(second, table(b)) || !bytes.Equal(packed(t, b), table(b)) {
			t.Errorf("Pack's answers for %d bytes share memory", length)
		}
		one, _ := block.Parse(second)
		two, _ := block.Parse(second)
		_ = append(one.Data, 1, 2, 3)
		overwrite(one.Data)
		if !same(two, b) {
			t.Errorf("Parse's answers for %d bytes share memory", length)
		}
		wantParsed(t, "parsed again", second, b)
	}
}
