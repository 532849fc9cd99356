package octal_test

import (
	"bytes"
	"fmt"
	"math"
	"math/big"
	"math/rand/v2"
	"slices"
	"testing"

	"tabulary/api"
	"tabulary/octal"
)

func newDice() *rand.Rand { return rand.New(rand.NewPCG(7, 8)) }

// power is base to the exponent, by multiplying, so that no shift of the program's is told again here.
func power(base int64, exponent int) *big.Int {
	return new(big.Int).Exp(big.NewInt(base), big.NewInt(int64(exponent)), nil)
}

// plainForm is the section 'Words' told by the library's octal digits; false: there is none.
func plainForm(n, width int) ([]byte, bool) {
	if big.NewInt(int64(n)).Cmp(power(8, width-1)) >= 0 {
		return nil, false
	}
	return fmt.Appendf(nil, "%0*o\x00", width-1, n), true
}

// wideForm is the section 'Words' told by the library's great numbers; false: there is none.
func wideForm(n, width int) ([]byte, bool) {
	if big.NewInt(int64(n)).Cmp(power(256, width-1)) >= 0 {
		return nil, false
	}
	return append([]byte{0x80}, big.NewInt(int64(n)).FillBytes(make([]byte, width-1))...), true
}

func form(n, width int) ([]byte, bool) {
	if b, ok := plainForm(n, width); ok {
		return b, true
	}
	return wideForm(n, width)
}

// someNumbers are those beside each power of two up to the greatest number, and any others, rising, each once.
func someNumbers(dice *rand.Rand) []int {
	numbers := []int{0, 7, 8, 9, 420, 493, 511, 2097151, 2097152, 8589934591, 8589934592, math.MaxInt - 1, math.MaxInt}
	for bit := range 63 {
		for _, n := range []int{1<<bit - 1, 1 << bit, 1<<bit + 1, dice.IntN(1 << bit)} {
			numbers = append(numbers, n)
		}
	}
	slices.Sort(numbers)
	return slices.Compact(numbers)
}

// rows is the number that a loose field of digits says, by the section 'Words': some way of cutting it into blanks, digits, and bytes 00 or 20; false: there is no way.
func rows(b []byte) (int, bool) {
	all := func(piece []byte, may string) bool {
		for _, c := range piece {
			if bytes.IndexByte([]byte(may), c) < 0 {
				return false
			}
		}
		return true
	}
	for first := range len(b) + 1 {
		for last := first; last <= len(b); last++ {
			if all(b[:first], " ") && all(b[first:last], "01234567") && all(b[last:], "\x00 ") {
				n := 0
				for _, c := range b[first:last] {
					n = n*8 + int(c) - '0'
				}
				return n, true
			}
		}
	}
	return 0, false
}

// read is P7.3 told by rows: a beginning can go on if it can be cut itself, since bytes 00 may follow whatever it is.
func read(b []byte) (int, int, api.Errno) {
	if len(b) < 2 || len(b) > 12 {
		return 0, 0, api.ErrArg
	}
	if b[0] == 0x80 {
		n := new(big.Int).SetBytes(b[1:])
		if !n.IsInt64() {
			return 0, 0, api.ErrLong
		}
		return int(n.Int64()), 0, api.OK
	}
	for at := range b {
		if _, ok := rows(b[:at+1]); !ok {
			return 0, at, api.ErrOctal
		}
	}
	n, _ := rows(b)
	return n, 0, api.OK
}

// readExact is P7.4 told by read and form.
func readExact(b []byte) (int, api.Errno) {
	n, _, err := read(b)
	if err != api.OK {
		return 0, err
	}
	if f, ok := form(n, len(b)); !ok || !bytes.Equal(f, b) {
		return 0, api.ErrOctalForm
	}
	return n, api.OK
}

// words are all rows of so many bytes of an alphabet.
func words(alphabet []byte, width int) [][]byte {
	all := [][]byte{nil}
	for range width {
		var longer [][]byte
		for _, w := range all {
			for _, c := range alphabet {
				longer = append(longer, append(bytes.Clone(w), c))
			}
		}
		all = longer
	}
	return all
}

func wantPut(t *testing.T, n, width int, want []byte, wantErr api.Errno) {
	t.Helper()
	b, err := octal.Put(n, width)
	if err != wantErr || !bytes.Equal(b, want) {
		t.Errorf("Put(%d, %d): % x %v, not % x %v", n, width, b, err, want, wantErr)
	}
}

func wantGet(t *testing.T, b []byte, want, wantAt int, wantErr api.Errno) {
	t.Helper()
	n, at, err := octal.Get(b)
	if n != want || at != wantAt || err != wantErr {
		t.Errorf("Get(% x): %d %d %v, not %d %d %v", b, n, at, err, want, wantAt, wantErr)
	}
}

func wantExact(t *testing.T, b []byte, want int, wantErr api.Errno) {
	t.Helper()
	n, err := octal.Exact(b)
	if n != want || err != wantErr {
		t.Errorf("Exact(% x): %d %v, not %d %v", b, n, err, want, wantErr)
	}
}

// wantRead asks Get and Exact of what the section 'Words' says.
func wantRead(t *testing.T, b []byte) {
	t.Helper()
	n, at, err := read(b)
	wantGet(t, b, n, at, err)
	n, err = readExact(b)
	wantExact(t, b, n, err)
}

// The chapter's table of examples, line by line.
func TestExamples(t *testing.T) {
	if octal.Most(8) != 2097151 || octal.Most(12) != 8589934591 || octal.Most(1) != -1 {
		t.Errorf("Most: %d %d %d", octal.Most(8), octal.Most(12), octal.Most(1))
	}
	wantPut(t, 420, 8, []byte{0x30, 0x30, 0x30, 0x30, 0x36, 0x34, 0x34, 0}, api.OK)
	wantPut(t, 2097152, 8, []byte{0x80, 0, 0, 0, 0, 0x20, 0, 0}, api.OK)
	wantPut(t, 7, 2, []byte{0x37, 0}, api.OK)
	wantPut(t, 8, 2, []byte{0x80, 8}, api.OK)
	wantPut(t, 256, 2, nil, api.ErrLong)
	wantPut(t, -1, 8, nil, api.ErrArg)
	wantGet(t, []byte{0x20, 0x20, 0x36, 0x34, 0x34, 0x20, 0, 0}, 420, 0, api.OK)
	wantGet(t, []byte{0x20, 0x20}, 0, 0, api.OK)
	wantGet(t, []byte{0, 0x20, 0}, 0, 0, api.OK)
	wantGet(t, []byte{0x36, 0x34, 0x38, 0}, 0, 2, api.ErrOctal)
	wantGet(t, []byte{0x20, 0, 0x37}, 0, 2, api.ErrOctal)
	wantGet(t, []byte{0x36, 0, 0x34, 0}, 0, 2, api.ErrOctal)
	wantGet(t, nil, 0, 0, api.ErrArg)
	wantExact(t, []byte{0x20, 0x36, 0x34, 0}, 0, api.ErrOctalForm)
	wantExact(t, []byte{0x80, 7}, 0, api.ErrOctalForm)
	wantExact(t, []byte{0x37, 0}, 7, api.OK)
}

// P7.1: each width, and those that no field has.
func TestMost(t *testing.T) {
	want := []int{7, 63, 511, 4095, 32767, 262143, 2097151, 16777215, 134217727, 1073741823, 8589934591}
	for i, n := range want {
		if octal.Most(i+2) != n {
			t.Errorf("Most(%d): %d, not %d", i+2, octal.Most(i+2), n)
		}
	}
	for _, width := range []int{math.MinInt, -12, -2, -1, 0, 1, 13, 14, 22, 64, math.MaxInt} {
		if octal.Most(width) != -1 {
			t.Errorf("Most(%d): %d, not -1", width, octal.Most(width))
		}
	}
}

// P7.1: it is Put that tells which number is the last one of a plain form.
func TestMostIsTheLastPlain(t *testing.T) {
	for width := 2; width <= 12; width++ {
		last, _ := octal.Put(octal.Most(width), width)
		next, _ := octal.Put(octal.Most(width)+1, width)
		if !bytes.Equal(last, append(bytes.Repeat([]byte("7"), width-1), 0)) || len(next) != width || next[0] != 0x80 {
			t.Errorf("Put about Most(%d): % x and % x", width, last, next)
		}
	}
}

// P7.2: widths that no field has, and numbers below 0, both at once too; ErrArg is told ahead of ErrLong.
func TestPutArg(t *testing.T) {
	for _, width := range []int{math.MinInt, -8, -1, 0, 1, 13, 14, 64, math.MaxInt} {
		for _, n := range []int{math.MinInt, -1, 0, 1, 7, 256, math.MaxInt} {
			wantPut(t, n, width, nil, api.ErrArg)
		}
	}
	for width := 2; width <= 12; width++ {
		for _, n := range []int{-1, -2, -7, -8, -256, math.MinInt + 1, math.MinInt} {
			wantPut(t, n, width, nil, api.ErrArg)
		}
	}
}

// P7.2: each number in each width against the section 'Words'.
func TestPut(t *testing.T) {
	for _, n := range someNumbers(newDice()) {
		for width := 2; width <= 12; width++ {
			want, ok := form(n, width)
			if !ok {
				wantPut(t, n, width, nil, api.ErrLong)
				continue
			}
			wantPut(t, n, width, want, api.OK)
		}
	}
}

// P7.2: every number that has a form in two bytes, and in three, and those just past them.
func TestPutShort(t *testing.T) {
	for n := range 300 {
		want, ok := form(n, 2)
		if ok != (n < 256) {
			t.Fatalf("%d in two bytes: %v", n, ok)
		}
		if !ok {
			wantPut(t, n, 2, nil, api.ErrLong)
			continue
		}
		wantPut(t, n, 2, want, api.OK)
	}
	for n := range 65536 {
		want, _ := form(n, 3)
		wantPut(t, n, 3, want, api.OK)
	}
	wantPut(t, 65536, 3, nil, api.ErrLong)
}

// P7.2: the last number of a wide form, and the one past it, where an int holds that.
func TestPutLastWide(t *testing.T) {
	for width := 2; width <= 8; width++ {
		past := int(power(256, width-1).Int64())
		wantPut(t, past-1, width, append([]byte{0x80}, bytes.Repeat([]byte{0xff}, width-1)...), api.OK)
		wantPut(t, past, width, nil, api.ErrLong)
		wantPut(t, math.MaxInt, width, nil, api.ErrLong)
	}
	for width := 9; width <= 12; width++ {
		want := append([]byte{0x80}, make([]byte, width-9)...)
		want = append(want, 0x7f, 0xff, 0xff, 0xff, 0xff, 0xff, 0xff, 0xff)
		wantPut(t, math.MaxInt, width, want, api.OK)
	}
}

// P7.3 and P7.4: fields of other lengths, of bytes that would be right in each.
func TestReadArg(t *testing.T) {
	for _, length := range []int{0, 1, 13, 14, 24, 64, 512, 1 << 16} {
		for _, c := range []byte{0, ' ', '0', '7', '8', 0x80, 0xff} {
			b := bytes.Repeat([]byte{c}, length)
			wantGet(t, b, 0, 0, api.ErrArg)
			wantExact(t, b, 0, api.ErrArg)
		}
	}
	whole := []byte("0000644\x00")
	wantExact(t, whole[:0], 0, api.ErrArg)
	wantExact(t, whole[:1], 0, api.ErrArg)
}

// P7.3 and P7.4: every field of two bytes.
func TestReadTwoBytes(t *testing.T) {
	for n := range 65536 {
		wantRead(t, []byte{byte(n >> 8), byte(n)})
	}
}

// P7.3 and P7.4: fields of all bytes that stand at the ends of what may be.
func TestReadAlphabet(t *testing.T) {
	for width, alphabet := range map[int]string{
		3: "\x00\x01\x07\x1f !/01678\x7f\x80\x81\xb0\xff",
		4: "\x00\x01 /0178\x80\xff",
		5: "\x00 0378\x80",
		6: "\x00 157\x80",
	} {
		for _, b := range words([]byte(alphabet), width) {
			wantRead(t, b)
		}
	}
}

// P7.3: the place by the promise's own words: among all loose fields of that length there is none that goes on so.
func TestGetPlaceAmongAll(t *testing.T) {
	for width := 2; width <= 4; width++ {
		beginnings := map[string]int{}
		for _, b := range words([]byte(" 01234567\x00"), width) {
			if _, ok := rows(b); ok {
				for end := range width {
					beginnings[string(b[:end+1])]++
				}
			}
		}
		for _, b := range words([]byte(" 089\x00-"), width) {
			_, at, err := octal.Get(b)
			bad := -1
			for end := range width {
				if beginnings[string(b[:end+1])] == 0 {
					bad = end
					break
				}
			}
			if (err == api.ErrOctal) != (bad >= 0) || at != max(bad, 0) {
				t.Errorf("Get(% x): at %d %v, not at %d", b, at, err, bad)
			}
		}
	}
}

// P7.3: each byte that is none of a loose field's, in each place of each width, behind blanks, digits and noughts; and a byte of a row that is over.
func TestGetWrongByte(t *testing.T) {
	for width := 2; width <= 12; width++ {
		for at := range width {
			for c := range 256 {
				for _, ahead := range []byte{' ', '5', 0} {
					b := bytes.Repeat([]byte{ahead}, width)
					b[at] = byte(c)
					wantRead(t, b)
				}
			}
		}
	}
}

// P7.3: what is behind the first wrong byte does not tell, not even a byte 80.
func TestGetFirstWrongByte(t *testing.T) {
	wantGet(t, []byte("8888"), 0, 0, api.ErrOctal)
	wantGet(t, []byte("6 8x"), 0, 2, api.ErrOctal)
	wantGet(t, []byte("6 4\x80"), 0, 2, api.ErrOctal)
	wantGet(t, []byte(" \x80\x00\x00"), 0, 1, api.ErrOctal)
	wantGet(t, []byte("7\x80"), 0, 1, api.ErrOctal)
	wantGet(t, []byte{0xff, 0xff, 0xff, 0xff}, 0, 0, api.ErrOctal)
	wantGet(t, []byte{0x81, 0}, 0, 0, api.ErrOctal)
	wantGet(t, []byte("-1234567\x00"), 0, 0, api.ErrOctal)
	wantGet(t, []byte("+7\x00"), 0, 0, api.ErrOctal)
	wantGet(t, []byte("0o17\x00"), 0, 1, api.ErrOctal)
	wantGet(t, []byte("1\t\x00"), 0, 1, api.ErrOctal)
	wantGet(t, []byte("12345678\x00"), 0, 7, api.ErrOctal)
	wantGet(t, []byte("00000000000\x01"), 0, 11, api.ErrOctal)
}

// P7.3: rows of each length, empty ones too, in each width.
func TestGetRows(t *testing.T) {
	dice := newDice()
	for width := 2; width <= 12; width++ {
		for blanks := range width + 1 {
			for count := range width - blanks + 1 {
				b := bytes.Repeat([]byte(" "), blanks)
				n := 0
				for range count {
					digit := dice.IntN(8)
					n = n*8 + digit
					b = append(b, '0'+byte(digit))
				}
				for len(b) < width {
					b = append(b, "\x00 "[dice.IntN(2)])
				}
				wantGet(t, b, n, 0, api.OK)
			}
		}
	}
	wantGet(t, []byte("777777777777"), 68719476735, 0, api.OK)
	wantGet(t, []byte("77"), 63, 0, api.OK)
	wantGet(t, []byte("000000000001"), 1, 0, api.OK)
	wantGet(t, []byte("\x00\x00"), 0, 0, api.OK)
	wantGet(t, []byte(" \x00 \x00 \x00"), 0, 0, api.OK)
}

// P7.3: the greatest number that may be, and the one past it, with noughts ahead where there is room; bits at each place.
func TestGetWide(t *testing.T) {
	for width := 2; width <= 12; width++ {
		b := append([]byte{0x80}, make([]byte, width-1)...)
		wantGet(t, b, 0, 0, api.OK)
		for bit := range 8 * (width - 1) {
			one := bytes.Clone(b)
			one[width-1-bit/8] = 1 << (bit % 8)
			wantRead(t, one)
			one[width-1] |= 1
			wantRead(t, one)
			if bit >= 63 {
				wantGet(t, one, 0, 0, api.ErrLong)
				wantExact(t, one, 0, api.ErrLong)
			}
		}
		full := append([]byte{0x80}, bytes.Repeat([]byte{0xff}, width-1)...)
		wantRead(t, full)
	}
	wantGet(t, []byte{0x80, 0x7f, 0xff, 0xff, 0xff, 0xff, 0xff, 0xff, 0xff}, math.MaxInt, 0, api.OK)
	wantGet(t, []byte{0x80, 0x80, 0, 0, 0, 0, 0, 0, 0}, 0, 0, api.ErrLong)
	wantGet(t, []byte{0x80, 0xff, 0xff, 0xff, 0xff, 0xff, 0xff, 0xff, 0xff}, 0, 0, api.ErrLong)
	wantGet(t, []byte{0x80, 0, 0, 0, 0x7f, 0xff, 0xff, 0xff, 0xff, 0xff, 0xff, 0xff}, math.MaxInt, 0, api.OK)
	wantGet(t, []byte{0x80, 0, 0, 0, 0x80, 0, 0, 0, 0, 0, 0, 0}, 0, 0, api.ErrLong)
	wantGet(t, []byte{0x80, 0, 0, 1, 0, 0, 0, 0, 0, 0, 0, 7}, 0, 0, api.ErrLong)
	wantGet(t, []byte{0x80, 1, 0, 0, 0, 0, 0, 0, 0, 0, 0, 0}, 0, 0, api.ErrLong)
}

// P7.4: fields that say their number otherwise than its form does.
func TestExactOtherForm(t *testing.T) {
	for _, b := range []string{"77", "7 ", " 7", "07", "\x00\x00", "  ", " \x00", "0644", "644\x00\x00", " 644\x00", "0644 ", "\x80\x00", "\x80\x07", "\x80\x00\x3f", "\x80\x00\x00", "777777777777", "0000000000 \x00", "\x80\x00\x00\x00\x00\x00\x00\x01\xff\xff\xff\xff"} {
		wantExact(t, []byte(b), 0, api.ErrOctalForm)
	}
	for b, n := range map[string]int{"0\x00": 0, "7\x00": 7, "\x80\x08": 8, "\x80\xff": 255, "77\x00": 63, "\x80\x00\x40": 64, "77777777777\x00": 8589934591, "\x80\x00\x00\x00\x00\x00\x00\x02\x00\x00\x00\x00": 8589934592} {
		wantExact(t, []byte(b), n, api.OK)
	}
}

// P7.4: Get's errors, without their place.
func TestExactErrors(t *testing.T) {
	wantExact(t, []byte("648\x00"), 0, api.ErrOctal)
	wantExact(t, []byte("6\x004\x00"), 0, api.ErrOctal)
	wantExact(t, []byte{0xff, 0}, 0, api.ErrOctal)
	wantExact(t, []byte{0x80, 0x80, 0, 0, 0, 0, 0, 0, 0}, 0, api.ErrLong)
	wantExact(t, []byte("7"), 0, api.ErrArg)
	wantExact(t, nil, 0, api.ErrArg)
	wantExact(t, make([]byte, 13), 0, api.ErrArg)
}

// P7.3 and P7.4: forms with some bytes made others, against the section 'Words'.
func TestReadChanged(t *testing.T) {
	dice := newDice()
	numbers := someNumbers(dice)
	for range 20000 {
		width := 2 + dice.IntN(11)
		b, ok := form(numbers[dice.IntN(len(numbers))], width)
		if !ok {
			continue
		}
		for range 1 + dice.IntN(3) {
			b[dice.IntN(width)] = "\x00 0718\x80\xff"[dice.IntN(8)]
		}
		wantRead(t, b)
	}
}

// P7.5: Get and Exact of Put's bytes.
func TestThereAndBack(t *testing.T) {
	for _, n := range someNumbers(newDice()) {
		for width := 2; width <= 12; width++ {
			b, err := octal.Put(n, width)
			if err != api.OK {
				continue
			}
			wantGet(t, b, n, 0, api.OK)
			wantExact(t, b, n, api.OK)
		}
	}
}

// P7.5: Put of Exact's number, of bytes that Put did not make: all of two bytes, all others of an alphabet.
func TestBackAndThere(t *testing.T) {
	fields := words([]byte("\x00\x01 0178\x80\xff"), 5)
	for n := range 65536 {
		fields = append(fields, []byte{byte(n >> 8), byte(n)})
	}
	taken := 0
	for _, b := range fields {
		n, err := octal.Exact(b)
		if err != api.OK {
			continue
		}
		taken++
		wantPut(t, n, len(b), b, api.OK)
	}
	if taken < 500 {
		t.Errorf("Exact took %d fields", taken)
	}
}

// P7.6: numbers that rise have forms that rise, in each width; all of two bytes and of three side by side.
func TestOrder(t *testing.T) {
	check := func(numbers []int, width int) {
		var before []byte
		for _, n := range numbers {
			b, err := octal.Put(n, width)
			if err != api.OK {
				break
			}
			if before != nil && bytes.Compare(before, b) >= 0 {
				t.Errorf("% x is not ahead of % x", before, b)
			}
			before = b
		}
	}
	numbers := someNumbers(newDice())
	for width := 2; width <= 12; width++ {
		check(numbers, width)
	}
	var all []int
	for n := range 65536 {
		all = append(all, n)
	}
	check(all, 2)
	check(all, 3)
}

// P7.7: each count of a plain form's noughts ahead as blanks, with either last byte.
func TestLoose(t *testing.T) {
	for _, n := range someNumbers(newDice()) {
		for width := 2; width <= 12; width++ {
			b, ok := plainForm(n, width)
			if !ok {
				continue
			}
			for blanks := 0; ; blanks++ {
				wantGet(t, b, n, 0, api.OK)
				b[width-1] = ' '
				wantGet(t, b, n, 0, api.OK)
				b[width-1] = 0
				if b[blanks] != '0' {
					break
				}
				b[blanks] = ' '
			}
		}
	}
}

// P7.8: no argument is changed, nor the room behind its end; the room does not tell, either.
func TestArgumentsStay(t *testing.T) {
	for _, b := range []string{"0000644\x00", "  644 \x00\x00", "\x80\x00\x00\x00\x00 \x00\x00", "\x80\xff\xff\xff\xff\xff\xff\xff\xff", "648\x00", "7", "", "0000000000000000"} {
		for _, behind := range []string{"", "7777\x00\x80", "\x00\x00\x00", "\xff\xff\xff"} {
			room := []byte(b + behind)
			field := room[:len(b)]
			wantRead(t, field)
			if string(room) != b+behind {
				t.Errorf("% x became % x", b+behind, room)
			}
		}
	}
}

// P7.8 and R2: what the caller writes into an answer, its spare room too, is not to be seen in another one.
func TestAnswersAreNew(t *testing.T) {
	for _, n := range []int{0, 7, 8, 255, 420, 2097152, math.MaxInt} {
		for width := 2; width <= 12; width++ {
			want, ok := form(n, width)
			if !ok {
				continue
			}
			one, _ := octal.Put(n, width)
			two, _ := octal.Put(n, width)
			room := one[:cap(one)]
			for i := range room {
				room[i] = 0xee
			}
			if !bytes.Equal(two, want) {
				t.Errorf("two answers of Put(%d, %d) share memory", n, width)
			}
			wantPut(t, n, width, want, api.OK)
		}
	}
}

// R1: any bytes of any length are answered, as the section 'Words' says.
func FuzzRead(f *testing.F) {
	for _, b := range []string{"", "7", "7\x00", "  644 \x00\x00", "648\x00", "\x80\x08", "\x80\xff\xff\xff\xff\xff\xff\xff\xff", "777777777777", "7777777777777"} {
		f.Add([]byte(b))
	}
	f.Fuzz(func(t *testing.T, b []byte) { wantRead(t, b) })
}
