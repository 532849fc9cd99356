package head_test

import (
	"archive/tar"
	"bytes"
	"fmt"
	"math"
	"math/rand/v2"
	"slices"
	"strings"
	"testing"

	"tabulary/api"
	"tabulary/head"
)

const (
	maxSize = 8589934591
	maxTime = 1099511627776
)

var types = []byte{0x30, 0x31, 0x32, 0x35, 0x78}

func newDice() *rand.Rand { return rand.New(rand.NewPCG(10, 9)) }

// small is the head a of the chapter's examples.
func small() api.Head { return api.Head{Name: "a", Mode: 420, Size: 3, Type: 0x30} }

// great is a head that fills all its fields, with bytes that are no letters, too.
func great() api.Head {
	return api.Head{
		Name:   strings.Repeat("n\xff", 50),
		Prefix: strings.Repeat("p/\x80 \n", 31),
		Mode:   4095,
		Size:   maxSize,
		Time:   maxTime,
		Type:   0x78,
		Link:   strings.Repeat("l\x01", 50),
	}
}

// field is a text with bytes 00 behind it.
func field(text string, width int) string { return text + strings.Repeat("\x00", width-len(text)) }

// digits is a number's plain form, by the library's octal digits.
func digits(n, width int) string { return fmt.Sprintf("%0*o\x00", width-1, n) }

// clock is a time's form: plain as long as there is room, the number's own bytes behind that.
func clock(n int) string {
	if n <= maxSize {
		return digits(n, 12)
	}
	b := []byte{0x80, 0, 0, 0, 0, 0, 0, 0, 0, 0, 0, 0}
	for at := 11; n > 0; at-- {
		b[at] = byte(n % 256)
		n /= 256
	}
	return string(b)
}

// written is the chapter's table, field by field in its order; the sum is added up while blanks stand in its place.
func written(h api.Head) []byte {
	none := digits(0, 8)
	b := []byte(field(h.Name, 100) + digits(h.Mode, 8) + none + none + digits(h.Size, 12) + clock(h.Time) +
		"        " + string([]byte{h.Type}) + field(h.Link, 100) + "\x75\x73\x74\x61\x72\x00\x30\x30" +
		field("", 64) + none + none + field(h.Prefix, 155) + field("", 12))
	total := 0
	for _, c := range b {
		total += int(c)
	}
	copy(b[148:], digits(total, 7)+" ")
	return b
}

// added is the sum by its words: what stands ahead of the place 148, what stands from 156 on, and eight times 20.
func added(b []byte) int {
	total := 8 * 0x20
	for _, c := range slices.Concat(b[:148], b[156:]) {
		total += int(c)
	}
	return total
}

// resealed is P10.3 told by the library's octal digits.
func resealed(b []byte) []byte {
	return slices.Concat(b[:148], []byte(digits(added(b), 7)+" "), b[156:])
}

// mayBe is P10.1's errors, told over again.
func mayBe(h api.Head) api.Errno {
	if !slices.Contains(types, h.Type) {
		return api.ErrType
	}
	if len(h.Name) > 100 || len(h.Link) > 100 || len(h.Prefix) > 155 {
		return api.ErrLong
	}
	if strings.Contains(h.Name+h.Link+h.Prefix, "\x00") {
		return api.ErrNul
	}
	if min(h.Mode, h.Size, h.Time) < 0 || h.Mode > 4095 || h.Size > maxSize || h.Time > maxTime {
		return api.ErrArg
	}
	return api.OK
}

// spelled is the number of a field of octal digits; -1, if it has another byte.
func spelled(b []byte) int {
	n := 0
	for _, c := range b {
		if c < '0' || c > '7' {
			return -1
		}
		n = n*8 + int(c) - '0'
	}
	return n
}

// clocked is the number that the place 136 tells; -1, if none.
func clocked(b []byte) int {
	if b[0] != 0x80 {
		return spelled(b[:11])
	}
	n := 0
	for _, c := range b[1:] {
		if n > maxTime {
			return -1
		}
		n = n*256 + int(c)
	}
	return n
}

// read is P10.2: some head, looked for in what the fields tell, whose bytes these are.
func read(b []byte) (api.Head, api.Errno) {
	if len(b) != 512 {
		return api.Head{}, api.ErrArg
	}
	if string(b[257:265]) != "ustar\x0000" {
		return api.Head{}, api.ErrHead
	}
	if string(b[148:156]) != digits(added(b), 7)+" " {
		return api.Head{}, api.ErrHeadSum
	}
	h := api.Head{
		Name:   strings.TrimRight(string(b[:100]), "\x00"),
		Prefix: strings.TrimRight(string(b[345:500]), "\x00"),
		Mode:   spelled(b[100:107]),
		Size:   spelled(b[124:135]),
		Time:   clocked(b[136:148]),
		Type:   b[156],
		Link:   strings.TrimRight(string(b[157:257]), "\x00"),
	}
	if mayBe(h) != api.OK || !bytes.Equal(written(h), b) {
		return api.Head{}, api.ErrHead
	}
	return h, api.OK
}

func wantPut(t *testing.T, h api.Head) {
	t.Helper()
	wantErr := mayBe(h)
	var want []byte
	if wantErr == api.OK {
		want = written(h)
	}
	if b, err := head.Put(h); err != wantErr || !bytes.Equal(b, want) {
		t.Errorf("Put(%.600q): %q %v, not %q %v", fmt.Sprint(h), b, err, want, wantErr)
	}
}

func wantPutErr(t *testing.T, h api.Head, want api.Errno) {
	t.Helper()
	if b, err := head.Put(h); err != want || want != api.OK && len(b) != 0 {
		t.Errorf("Put(%.600q): %d bytes %v, not %v", fmt.Sprint(h), len(b), err, want)
	}
	wantPut(t, h)
}

func wantGet(t *testing.T, b []byte, want api.Head, wantErr api.Errno) {
	t.Helper()
	if h, err := head.Get(b); h != want || err != wantErr {
		t.Errorf("Get(%.600q): %q %v, not %q %v", b, fmt.Sprint(h), err, fmt.Sprint(want), wantErr)
	}
}

func wantRead(t *testing.T, b []byte) {
	t.Helper()
	h, err := read(b)
	wantGet(t, b, h, err)
}

func wantSum(t *testing.T, b []byte, want int) {
	t.Helper()
	if n, err := head.Sum(b); n != want || err != api.OK {
		t.Errorf("Sum(%q): %d %v, not %d", b, n, err, want)
	}
}

func wantSeal(t *testing.T, b []byte) {
	t.Helper()
	if s, err := head.Seal(b); !bytes.Equal(s, resealed(b)) || err != api.OK {
		t.Errorf("Seal(%q): %q %v, not %q", b, s, err, resealed(b))
	}
}

func mustPut(t *testing.T, h api.Head) []byte {
	t.Helper()
	b, err := head.Put(h)
	if err != api.OK || len(b) != 512 {
		t.Fatalf("Put(%q): %d bytes %v", fmt.Sprint(h), len(b), err)
	}
	return b
}

// with are bytes with others laid over them at a place.
func with(b []byte, at int, over string) []byte {
	c := bytes.Clone(b)
	copy(c[at:], over)
	return c
}

// someText is one of any bytes but 00; often as long as may be, or empty.
func someText(dice *rand.Rand, most int) string {
	length := []int{0, 1, most - 1, most, dice.IntN(most + 1)}[dice.IntN(5)]
	b := make([]byte, length)
	for i := range b {
		b[i] = byte(1 + dice.IntN(255))
	}
	return string(b)
}

func someNumber(dice *rand.Rand, most int) int {
	return []int{0, 1, most - 1, most, dice.IntN(most + 1), min(most, 1<<dice.IntN(41)), min(most, maxSize+dice.IntN(3)-1)}[dice.IntN(7)]
}

func someHead(dice *rand.Rand) api.Head {
	return api.Head{
		Name:   someText(dice, 100),
		Prefix: someText(dice, 155),
		Mode:   someNumber(dice, 4095),
		Size:   someNumber(dice, maxSize),
		Time:   someNumber(dice, maxTime),
		Type:   types[dice.IntN(len(types))],
		Link:   someText(dice, 100),
	}
}

// someBytes are any, those that fields are made of often.
func someBytes(dice *rand.Rand, length int) []byte {
	b := make([]byte, length)
	for i := range b {
		if dice.IntN(2) == 0 {
			b[i] = byte(dice.IntN(256))
		} else {
			b[i] = "\x00 0178\x80\xff"[dice.IntN(8)]
		}
	}
	return b
}

// The chapter's table of examples, line by line.
func TestExamples(t *testing.T) {
	a := small()
	b := mustPut(t, a)
	wantSum(t, b, 3809)
	if !bytes.Equal(b[148:156], []byte{0x30, 0x30, 0x37, 0x33, 0x34, 0x31, 0x00, 0x20}) {
		t.Errorf("at 148: % x", b[148:156])
	}
	wantSum(t, make([]byte, 512), 256)
	if n, err := head.Sum(make([]byte, 511)); n != 0 || err != api.ErrArg {
		t.Errorf("Sum of 511 bytes: %d %v", n, err)
	}
	wantGet(t, b, a, api.OK)
	other := with(b, 0, "b")
	wantGet(t, other, api.Head{}, api.ErrHeadSum)
	other, _ = head.Seal(other)
	a.Name = "b"
	wantGet(t, other, a, api.OK)
	loose, _ := head.Seal(with(b, 100, " "))
	wantGet(t, loose, api.Head{}, api.ErrHead)
	wantGet(t, make([]byte, 512), api.Head{}, api.ErrHead)
	if !head.Blank(make([]byte, 512)) {
		t.Errorf("512 noughts are not blank")
	}
	a = small()
	a.Type = 0x33
	wantPutErr(t, a, api.ErrType)
	a = small()
	a.Name = strings.Repeat("a", 101)
	wantPutErr(t, a, api.ErrLong)
	a = small()
	a.Mode = 4096
	wantPutErr(t, a, api.ErrArg)
	a = small()
	if head.Full(a) != "a" {
		t.Errorf("Full: %q", head.Full(a))
	}
	a.Prefix = "p/q"
	if head.Full(a) != "p/q/a" {
		t.Errorf("Full: %q", head.Full(a))
	}
}

// P10.1: two heads byte by byte, written out by hand.
func TestPutBytes(t *testing.T) {
	for _, c := range []struct {
		h      api.Head
		pieces map[int]string
	}{
		{small(), map[int]string{
			0: field("a", 100), 100: "0000644\x00", 108: "0000000\x00", 116: "0000000\x00", 124: "00000000003\x00",
			136: "00000000000\x00", 148: "007341\x00 ", 156: "0", 157: field("", 100), 257: "ustar\x0000",
			265: field("", 64), 329: "0000000\x00", 337: "0000000\x00", 345: field("", 155), 500: field("", 12),
		}},
		{great(), map[int]string{
			0: strings.Repeat("n\xff", 50), 100: "0007777\x00", 108: "0000000\x00", 116: "0000000\x00", 124: "77777777777\x00",
			136: "\x80\x00\x00\x00\x00\x00\x01\x00\x00\x00\x00\x00", 148: "110774\x00 ", 156: "x", 157: strings.Repeat("l\x01", 50), 257: "ustar\x0000",
			265: field("", 64), 329: "0000000\x00", 337: "0000000\x00", 345: strings.Repeat("p/\x80 \n", 31), 500: field("", 12),
		}},
	} {
		b := mustPut(t, c.h)
		count := 0
		for at, piece := range c.pieces {
			count += len(piece)
			if got := string(b[at : at+len(piece)]); got != piece {
				t.Errorf("at %d: %q, not %q", at, got, piece)
			}
		}
		if count != 512 {
			t.Errorf("the pieces have %d bytes", count)
		}
	}
}

// P10.1: every byte as Type.
func TestPutType(t *testing.T) {
	for c := range 256 {
		h := small()
		h.Type = byte(c)
		if !slices.Contains(types, h.Type) {
			wantPutErr(t, h, api.ErrType)
			continue
		}
		wantPutErr(t, h, api.OK)
		if b := mustPut(t, h); b[156] != h.Type {
			t.Errorf("the type %x: %x", c, b[156])
		}
	}
}

// P10.1: texts of each length up to past their ends; and a byte 00 at each place.
func TestPutTexts(t *testing.T) {
	for _, c := range []struct {
		most int
		set  func(h *api.Head, text string)
	}{
		{100, func(h *api.Head, text string) { h.Name = text }},
		{100, func(h *api.Head, text string) { h.Link = text }},
		{155, func(h *api.Head, text string) { h.Prefix = text }},
	} {
		for _, h := range []api.Head{small(), great(), {Type: 0x35}} {
			for length := range 600 {
				c.set(&h, strings.Repeat("\xfe", length))
				if length > c.most {
					wantPutErr(t, h, api.ErrLong)
					continue
				}
				wantPutErr(t, h, api.OK)
				for at := range length {
					c.set(&h, string(with(bytes.Repeat([]byte("x"), length), at, "\x00")))
					wantPutErr(t, h, api.ErrNul)
				}
			}
			c.set(&h, strings.Repeat("\x00", c.most+1))
			wantPutErr(t, h, api.ErrLong)
			c.set(&h, strings.Repeat("\x00", c.most))
			wantPutErr(t, h, api.ErrNul)
		}
	}
}

// P10.1: every byte but 00 may stand in a text: nothing is asked of paths here.
func TestPutAnyBytes(t *testing.T) {
	for c := 1; c < 256; c++ {
		text := string([]byte{byte(c)})
		for _, h := range []api.Head{{Name: text, Type: 0x30}, {Prefix: text, Type: 0x35}, {Link: text, Type: 0x32}, {Name: text, Prefix: text, Link: text, Type: 0x78}} {
			wantPutErr(t, h, api.OK)
			wantGet(t, mustPut(t, h), h, api.OK)
		}
	}
	for _, text := range []string{"/", "//", "a/", "/a", ".", "..", "a//b", " ", "ustar"} {
		h := api.Head{Name: text, Prefix: text, Link: text, Type: 0x31}
		wantPutErr(t, h, api.OK)
		wantGet(t, mustPut(t, h), h, api.OK)
	}
}

// P10.1: numbers at their bounds, and one past them; of each type alike.
func TestPutNumbers(t *testing.T) {
	for _, c := range []struct {
		most int
		set  func(h *api.Head, n int)
	}{
		{4095, func(h *api.Head, n int) { h.Mode = n }},
		{maxSize, func(h *api.Head, n int) { h.Size = n }},
		{maxTime, func(h *api.Head, n int) { h.Time = n }},
	} {
		numbers := []int{0, 1, 7, 8, 420, 511, 512, c.most - 1, c.most, c.most + 1, -1, -8, math.MaxInt, math.MinInt, maxSize, maxSize + 1, maxTime, maxTime + 1}
		for bit := range 63 {
			numbers = append(numbers, 1<<bit, 1<<bit-1, -1<<bit)
		}
		for _, kind := range types {
			for _, n := range numbers {
				h := small()
				h.Type = kind
				c.set(&h, n)
				if n < 0 || n > c.most {
					wantPutErr(t, h, api.ErrArg)
					continue
				}
				wantPutErr(t, h, api.OK)
				wantGet(t, mustPut(t, h), h, api.OK)
			}
		}
	}
	for mode := range 4097 {
		wantPut(t, api.Head{Mode: mode, Type: 0x30})
	}
}

// P10.1 and R5: each way of being wrong with each other one: the first that is named is told.
func TestPutFirstError(t *testing.T) {
	long, nul := strings.Repeat("x", 200), "x\x00"
	wrongs := []struct {
		err  api.Errno
		make func(h *api.Head)
	}{
		{api.ErrType, func(h *api.Head) { h.Type = 0 }},
		{api.ErrLong, func(h *api.Head) { h.Name = long }},
		{api.ErrLong, func(h *api.Head) { h.Link = long }},
		{api.ErrLong, func(h *api.Head) { h.Prefix = long }},
		{api.ErrNul, func(h *api.Head) { h.Name = nul }},
		{api.ErrNul, func(h *api.Head) { h.Link = nul }},
		{api.ErrNul, func(h *api.Head) { h.Prefix = nul }},
		{api.ErrArg, func(h *api.Head) { h.Mode = -1 }},
		{api.ErrArg, func(h *api.Head) { h.Size = maxSize + 1 }},
		{api.ErrArg, func(h *api.Head) { h.Time = -1 }},
	}
	for i, first := range wrongs {
		for _, second := range wrongs[i:] {
			h := small()
			second.make(&h)
			first.make(&h) // the first one stays, if both are of one field
			wantPutErr(t, h, first.err)
		}
	}
	dice := newDice()
	for range 5000 {
		h := someHead(dice)
		for _, wrong := range wrongs {
			if dice.IntN(6) == 0 {
				wrong.make(&h)
			}
		}
		wantPut(t, h)
	}
}

// P10.1 and P10.6: any heads.
func TestThereAndBack(t *testing.T) {
	dice := newDice()
	heads := []api.Head{small(), great(), {Type: 0x30}, {Type: 0x78}}
	for range 5000 {
		heads = append(heads, someHead(dice))
	}
	for _, h := range heads {
		wantPutErr(t, h, api.OK)
		b := mustPut(t, h)
		wantGet(t, b, h, api.OK)
		wantSum(t, b, added(b))
		wantSeal(t, b)
		if s, _ := head.Seal(b); !bytes.Equal(s, b) {
			t.Errorf("the bytes of %q are not sealed", fmt.Sprint(h))
		}
	}
}

// P10.1: others who know these archives read the same.
func TestOthersRead(t *testing.T) {
	dice := newDice()
	word := func(most int) string { return strings.Repeat(string(rune('a'+dice.IntN(26))), dice.IntN(most+1)) }
	for range 500 {
		h := api.Head{Name: "n" + word(99), Prefix: word(155), Mode: dice.IntN(4096), Time: someNumber(dice, maxTime), Type: types[dice.IntN(4)], Link: word(100)}
		if h.Type == 0x30 {
			h.Size, h.Link = dice.IntN(1000), ""
		}
		volume := slices.Concat(mustPut(t, h), make([]byte, (h.Size+511)/512*512+1024))
		got, err := tar.NewReader(bytes.NewReader(volume)).Next()
		if err != nil {
			t.Fatalf("%q: %v", fmt.Sprint(h), err)
		}
		if got.Name != head.Full(h) || got.Linkname != h.Link || got.Mode != int64(h.Mode) || got.Size != int64(h.Size) || got.ModTime.Unix() != int64(h.Time) || got.Typeflag != h.Type || got.Uid != 0 || got.Gid != 0 || got.Uname != "" || got.Gname != "" {
			t.Errorf("%q: others read %v", fmt.Sprint(h), got)
		}
	}
}

// P10.2 and P10.3: each number of bytes but 512, of noughts and of a head's own.
func TestLengths(t *testing.T) {
	b := slices.Concat(mustPut(t, small()), mustPut(t, small()))
	for length := range 1025 {
		for _, c := range [][]byte{b[:length], make([]byte, length)} {
			_, sumErr := head.Sum(c)
			s, sealErr := head.Seal(c)
			if length == 512 {
				if sumErr != api.OK || sealErr != api.OK {
					t.Errorf("Sum %v, Seal %v of 512 bytes", sumErr, sealErr)
				}
				continue
			}
			wantGet(t, c, api.Head{}, api.ErrArg)
			if n, err := head.Sum(c); n != 0 || err != api.ErrArg {
				t.Errorf("Sum of %d bytes: %d %v", length, n, err)
			}
			if len(s) != 0 || sealErr != api.ErrArg {
				t.Errorf("Seal of %d bytes: %d bytes %v", length, len(s), sealErr)
			}
			if head.Blank(c) {
				t.Errorf("%d bytes are blank", length)
			}
		}
	}
	wantGet(t, nil, api.Head{}, api.ErrArg)
	wantGet(t, make([]byte, 1<<22), api.Head{}, api.ErrArg)
}

// P10.7 and P10.2: every other byte at every place, unsealed: at the mark it is ErrHead, else ErrHeadSum. Sealed, it is read as the section 'Words' says.
func TestOneByte(t *testing.T) {
	heads := []api.Head{small(), great(), {Type: 0x35}, {Name: "d/", Prefix: "p", Mode: 493, Time: 1 << 33, Type: 0x35}, {Name: strings.Repeat("n", 100), Link: "to", Type: 0x32}}
	for _, h := range heads {
		b := mustPut(t, h)
		for at := range b {
			for by := range 255 {
				c := bytes.Clone(b)
				c[at] ^= byte(by + 1)
				want := api.ErrHeadSum
				if at >= 257 && at < 265 {
					want = api.ErrHead
				}
				wantGet(t, c, api.Head{}, want)
				wantRead(t, resealed(c))
			}
		}
	}
}

// P10.2 and R5: a wrong mark is told ahead of a wrong sum, and that ahead of wrong fields.
func TestGetFirstError(t *testing.T) {
	b := mustPut(t, small())
	fields := map[int]string{2: "x", 100: "0007777 ", 108: "1", 124: "\x80", 136: " ", 156: "9", 159: "x", 265: "root", 329: "1", 347: "x", 511: "x"}
	for at, over := range fields {
		wrong := with(b, at, over)
		wantGet(t, resealed(wrong), api.Head{}, api.ErrHead)
		wantGet(t, wrong, api.Head{}, api.ErrHeadSum)
		wantGet(t, with(wrong, 257, "ustar  \x00"), api.Head{}, api.ErrHead)
		wantGet(t, with(resealed(wrong), 148, "007341\x00\x00"), api.Head{}, api.ErrHeadSum)
	}
	wantGet(t, with(b, 148, "000000\x00 "), api.Head{}, api.ErrHeadSum)
	wantGet(t, with(with(b, 148, "000000\x00 "), 264, "1"), api.Head{}, api.ErrHead)
	wantGet(t, with(b, 257, "USTAR\x0000")[:511], api.Head{}, api.ErrArg)
}

// P10.2: the marks of other archives' forms, sealed.
func TestGetOtherMarks(t *testing.T) {
	b := mustPut(t, small())
	for _, mark := range []string{"ustar  \x00", "ustar\x00\x00\x00", "ustar\x00  ", "ustar\x0001", "ustar 00", "\x00\x00\x00\x00\x00\x00\x00\x00", "USTAR\x0000", "00ustar\x00"} {
		wantGet(t, resealed(with(b, 257, mark)), api.Head{}, api.ErrHead)
	}
}

// P10.2: the right sum told otherwise than by its form, and sums beside it.
func TestGetOtherSums(t *testing.T) {
	b := mustPut(t, small())
	wantGet(t, with(b, 148, "007341\x00 "), small(), api.OK)
	for _, sum := range []string{"  7341\x00 ", "007341 \x00", "007341\x00\x00", "007341  ", "0007341\x00", "0007341 ", "7341\x00\x00\x00 ", "00007341", "007340\x00 ", "007342\x00 ", "\x80\x00\x00\x00\x00\x0e\xe1 ", "        ", "\x00\x00\x00\x00\x00\x00\x00\x00", "003809\x00 "} {
		wantGet(t, with(b, 148, sum), api.Head{}, api.ErrHeadSum)
	}
	// Some add bytes above 127 as numbers below 0.
	h := small()
	h.Name = "\xff"
	signed := added(mustPut(t, h)) - 256
	wantGet(t, with(mustPut(t, h), 148, digits(signed, 7)), api.Head{}, api.ErrHeadSum)
	// Some add up what stands in the sum's own place.
	wantGet(t, with(b, 148, digits(3809-256, 7)), api.Head{}, api.ErrHeadSum)
}

// P10.2: sealed bytes that are no head's, though their fields can be understood.
func TestGetNoHead(t *testing.T) {
	b := mustPut(t, small())
	for _, c := range []struct {
		at    int
		overs []string
	}{
		{0, []string{"\x00b", "a\x00b", "a\x00\x00\x00b"}},
		{99, []string{"x"}},
		{100, []string{" 000644", "000644 \x00", "0000644 ", "00000644", "\x80\x00\x00\x00\x00\x00\x01\xa4", "0010000\x00", "7777777\x00", "       \x00", "\x00\x00\x00\x00\x00\x00\x00\x00", "-000644\x00", "0000648\x00"}},
		{108, []string{"0000001\x00", "0001750\x00", "0000000 ", "       \x00", "\x00\x00\x00\x00\x00\x00\x00\x00", "\x80\x00\x00\x00\x00\x00\x00\x00"}},
		{116, []string{"0000001\x00", "0001750\x00", "0000000 ", "       \x00", "\x00\x00\x00\x00\x00\x00\x00\x00", "\x80\x00\x00\x00\x00\x00\x00\x00"}},
		{124, []string{"00000000003 ", "000000000003", "          3\x00", "\x80\x00\x00\x00\x00\x00\x00\x00\x00\x00\x00\x03", "\x80\x00\x00\x00\x00\x00\x00\x02\x00\x00\x00\x00", "\x80\xff\xff\xff\xff\xff\xff\xff\xff\xff\xff\xff", "\xff\xff\xff\xff\xff\xff\xff\xff\xff\xff\xff\xff", "777777777777"}},
		{136, []string{"00000000003 ", "          3\x00", "\x80\x00\x00\x00\x00\x00\x00\x00\x00\x00\x00\x03", "\x80\x00\x00\x00\x00\x00\x00\x01\xff\xff\xff\xff", "\x80\x00\x00\x00\x00\x00\x01\x00\x00\x00\x00\x01", "\x80\x00\x00\x00\x7f\xff\xff\xff\xff\xff\xff\xff", "\x80\x00\x00\x00\x80\x00\x00\x00\x00\x00\x00\x00", "\xff\xff\xff\xff\xff\xff\xff\xff\xff\xff\xff\xff", "777777777777"}},
		{156, []string{"\x00", "3", "4", "6", "7", "g", "L", "K", "S", "X", " ", "\xff"}},
		{157, []string{"\x00b", "a\x00b"}},
		{256, []string{"x"}},
		{265, []string{"root", "\x00x"}},
		{297, []string{"root"}},
		{328, []string{"x"}},
		{329, []string{"0000001\x00", "\x00\x00\x00\x00\x00\x00\x00\x00"}},
		{337, []string{"0000001\x00", "\x00\x00\x00\x00\x00\x00\x00\x00"}},
		{345, []string{"\x00b", "a\x00b"}},
		{499, []string{"x"}},
		{500, []string{"x", "\x00x"}},
		{511, []string{"x"}},
	} {
		for _, over := range c.overs {
			wrong := resealed(with(b, c.at, over))
			wantGet(t, wrong, api.Head{}, api.ErrHead)
			wantRead(t, wrong)
		}
	}
}

// P10.2: sealed bytes of heads that others wrote the same way.
func TestGetHead(t *testing.T) {
	b := mustPut(t, small())
	for _, c := range []struct {
		at   int
		over string
		set  func(h *api.Head)
	}{
		{0, "\x00", func(h *api.Head) { h.Name = "" }},
		{0, strings.Repeat("b", 100), func(h *api.Head) { h.Name = strings.Repeat("b", 100) }},
		{100, "0007777\x00", func(h *api.Head) { h.Mode = 4095 }},
		{124, "77777777777\x00", func(h *api.Head) { h.Size = maxSize }},
		{136, "77777777777\x00", func(h *api.Head) { h.Time = maxSize }},
		{136, "\x80\x00\x00\x00\x00\x00\x00\x02\x00\x00\x00\x00", func(h *api.Head) { h.Time = maxSize + 1 }},
		{136, "\x80\x00\x00\x00\x00\x00\x01\x00\x00\x00\x00\x00", func(h *api.Head) { h.Time = maxTime }},
		{156, "1", func(h *api.Head) { h.Type = api.TypeHard }},
		{156, "2", func(h *api.Head) { h.Type = api.TypeSoft }},
		{156, "5", func(h *api.Head) { h.Type = api.TypeFolder }},
		{156, "x", func(h *api.Head) { h.Type = api.TypeMore }},
		{157, strings.Repeat("b", 100), func(h *api.Head) { h.Link = strings.Repeat("b", 100) }},
		{345, strings.Repeat("b", 155), func(h *api.Head) { h.Prefix = strings.Repeat("b", 155) }},
	} {
		want := small()
		c.set(&want)
		wantGet(t, resealed(with(b, c.at, c.over)), want, api.OK)
	}
}

// P10.2 and P10.6: bytes of heads some of which became others, sealed again; where they are read, Put makes them again.
func TestBackAndThere(t *testing.T) {
	dice := newDice()
	places := []int{0, 99, 100, 107, 108, 116, 124, 135, 136, 147, 156, 157, 256, 265, 329, 337, 345, 499, 500, 511}
	taken, refused := 0, 0
	for range 30000 {
		b := written(someHead(dice))
		for range 1 + dice.IntN(2) {
			at := dice.IntN(512)
			if dice.IntN(2) == 0 {
				at = places[dice.IntN(len(places))]
			}
			b = with(b, at, string(someBytes(dice, 1+dice.IntN(3))))
		}
		if dice.IntN(10) > 0 {
			b = resealed(b)
		}
		wantRead(t, b)
		h, err := head.Get(b)
		if err != api.OK {
			refused++
			continue
		}
		taken++
		if back, err := head.Put(h); !bytes.Equal(back, b) || err != api.OK {
			t.Errorf("%q was read, and made again as %q %v", b, back, err)
		}
	}
	if taken < 3000 || refused < 3000 {
		t.Errorf("%d were taken, %d refused", taken, refused)
	}
}

// P10.3: each byte at each place alone; those of the sum's own place do not tell.
func TestSumOneByte(t *testing.T) {
	for at := range 512 {
		for c := range 256 {
			b := make([]byte, 512)
			b[at] = byte(c)
			want := 256 + c
			if at >= 148 && at < 156 {
				want = 256
			}
			wantSum(t, b, want)
		}
	}
	wantSum(t, bytes.Repeat([]byte{0xff}, 512), 504*255+256)
	wantSum(t, bytes.Repeat([]byte{0x80}, 512), 504*128+256)
	wantSeal(t, bytes.Repeat([]byte{0xff}, 512))
	wantSeal(t, make([]byte, 512))
}

// P10.3 and P10.8: any bytes.
func TestSumAndSeal(t *testing.T) {
	dice := newDice()
	for range 3000 {
		b := someBytes(dice, 512)
		if dice.IntN(2) == 0 {
			copy(b[257:], "ustar\x0000")
		}
		total := added(b)
		wantSum(t, b, total)
		wantSeal(t, b)
		s, _ := head.Seal(b)
		wantSum(t, s, total)
		again, err := head.Seal(s)
		if !bytes.Equal(again, s) || err != api.OK {
			t.Errorf("%q sealed again: %q %v", s, again, err)
		}
		if _, err := head.Get(s); err == api.ErrHeadSum {
			t.Errorf("%q was sealed, and its sum refused", s)
		}
		outside := slices.Concat(b[:148], b[156:])
		dice.Shuffle(len(outside), func(i, j int) { outside[i], outside[j] = outside[j], outside[i] })
		wantSum(t, slices.Concat(outside[:148], someBytes(dice, 8), outside[148:]), total)
	}
}

// P10.4: one byte that is not 00, at each place; other lengths.
func TestBlank(t *testing.T) {
	b := make([]byte, 512)
	if !head.Blank(b) {
		t.Errorf("512 noughts are not blank")
	}
	for at := range b {
		for _, c := range []byte{1, ' ', '0', 0x80, 0xff} {
			b[at] = c
			if head.Blank(b) {
				t.Errorf("blank with %x at %d", c, at)
			}
		}
		b[at] = 0
	}
	for _, length := range []int{0, 1, 511, 513, 1024, 1 << 20} {
		if head.Blank(make([]byte, length)) {
			t.Errorf("%d noughts are blank", length)
		}
	}
	if head.Blank(nil) || head.Blank(mustPut(t, small())) {
		t.Errorf("nil, or a head, is blank")
	}
	sealed, _ := head.Seal(b)
	if head.Blank(sealed) {
		t.Errorf("sealed noughts are blank")
	}
}

// P10.5: any texts, of heads that may not be, too; nothing but the Prefix and the Name tells.
func TestFull(t *testing.T) {
	long := strings.Repeat("long", 1000)
	for _, c := range []struct{ prefix, name, want string }{
		{"", "", ""}, {"", "a", "a"}, {"p", "a", "p/a"}, {"p/q", "a", "p/q/a"}, {"p", "", "p/"}, {"/", "/", "///"}, {"p/", "a", "p//a"},
		{"", "/a", "/a"}, {"\x00", "\x00", "\x00/\x00"}, {" ", "a", " /a"}, {long, long, long + "/" + long}, {"", long, long}, {"\xff", "\x80", "\xff/\x80"},
	} {
		for _, h := range []api.Head{{}, small(), great(), {Type: 0xff, Mode: -1, Size: math.MaxInt, Time: math.MinInt, Link: long}} {
			h.Prefix, h.Name = c.prefix, c.name
			if got := head.Full(h); got != c.want {
				t.Errorf("Full(%.100q, %.100q): %.100q", c.prefix, c.name, got)
			}
		}
	}
}

// P10.9: no argument is changed, nor the room behind its end; the room does not tell, either.
func TestArgumentsStay(t *testing.T) {
	whole := mustPut(t, great())
	for _, b := range [][]byte{whole, with(whole, 148, "00000000"), with(whole, 100, " "), make([]byte, 512), bytes.Repeat([]byte{0xff}, 512), whole[:511], whole[:0]} {
		for _, behind := range []byte{0, ' ', 0xff} {
			room := slices.Concat(b, bytes.Repeat([]byte{behind}, 64))
			then := bytes.Clone(room)
			given := room[:len(b)]
			wantRead(t, given)
			head.Sum(given)
			head.Seal(given)
			if head.Blank(given) != (len(b) == 512 && bytes.Count(b, []byte{0}) == 512) {
				t.Errorf("Blank(%q)", given)
			}
			if len(b) == 512 {
				wantSum(t, given, added(b))
				wantSeal(t, given)
			}
			if !bytes.Equal(room, then) {
				t.Fatalf("%q became %q", then, room)
			}
		}
	}
}

// P10.9: what was read or sealed is not kept: the caller may write over the bytes.
func TestArgumentsAreNotKept(t *testing.T) {
	given := mustPut(t, great())
	h, err := head.Get(given)
	sealed, _ := head.Seal(given)
	then := bytes.Clone(given)
	for i := range given {
		given[i] = 'z'
	}
	if h != great() || err != api.OK {
		t.Errorf("Get's texts are pieces of the bytes: %q", fmt.Sprint(h))
	}
	if !bytes.Equal(sealed, then) {
		t.Errorf("Seal's answer is what it was given")
	}
}

// P10.9 and R2: what the caller writes into an answer, its spare room too, is not to be seen anywhere.
func TestAnswersAreNew(t *testing.T) {
	fill := func(b []byte) {
		room := b[:cap(b)]
		for i := range room {
			room[i] = 0xee
		}
	}
	given := written(small())
	one, two := mustPut(t, small()), mustPut(t, small())
	sealed, _ := head.Seal(given)
	other, _ := head.Seal(given)
	fill(one)
	fill(sealed)
	for _, b := range [][]byte{two, other, given} {
		if !bytes.Equal(b, written(small())) {
			t.Errorf("answers, or an argument, share memory: %q", b)
		}
	}
	wantPut(t, small())
	wantSeal(t, given)
	wantGet(t, given, small(), api.OK)
	wantPut(t, great())
	if !head.Blank(make([]byte, 512)) {
		t.Errorf("512 noughts are no more blank")
	}
}

// R1: great texts are answered.
func TestGreat(t *testing.T) {
	long := strings.Repeat("x", 1<<22)
	for _, h := range []api.Head{{Name: long, Type: 0x30}, {Link: long, Type: 0x31}, {Prefix: long, Type: 0x78}, {Name: long, Link: long, Prefix: long, Type: 0x30}} {
		wantPutErr(t, h, api.ErrLong)
		h.Type = 0
		wantPutErr(t, h, api.ErrType)
	}
}

// R1: any bytes are answered as the section 'Words' says, as they are and sealed with the mark.
func FuzzGet(f *testing.F) {
	f.Add([]byte(nil), 0)
	f.Add(written(small()), 0)
	f.Add([]byte(" "), 100)
	f.Add([]byte("\x80\x00\x00\x00\x00\x00\x00\x02\x00\x00\x00\x00"), 136)
	f.Fuzz(func(t *testing.T, over []byte, at int) {
		wantRead(t, over)
		b := resealed(with(written(great()), max(0, min(at, 511)), string(over)))
		wantRead(t, b)
		if h, err := head.Get(b); err == api.OK {
			wantPut(t, h)
		}
	})
}

// R1: any head is answered, as P10.1 and P10.6 say.
func FuzzPut(f *testing.F) {
	f.Add("a", "p", "l", 420, 3, 0, byte(0x30))
	f.Add("", "", "", 4096, -1, maxTime, byte(0x78))
	f.Fuzz(func(t *testing.T, name, prefix, link string, mode, size, time int, kind byte) {
		h := api.Head{Name: name, Prefix: prefix, Mode: mode, Size: size, Time: time, Type: kind, Link: link}
		wantPut(t, h)
		if b, err := head.Put(h); err == api.OK {
			wantGet(t, b, h, api.OK)
		}
	})
}
