package pax_test

import (
	"bytes"
	"fmt"
	"maps"
	"math/rand/v2"
	"regexp"
	"slices"
	"strconv"
	"strings"
	"testing"
	"unsafe"

	"tabulary/api"
	"tabulary/pax"
)

func newDice() *rand.Rand { return rand.New(rand.NewPCG(9, 10)) }

func vs(n int) string { return strings.Repeat("v", n) }

// leastLength is P9.8's number, looked for from the least one on that could be it.
func leastLength(key, value int) int {
	for n := key + value; ; n++ {
		if n == key+value+3+len(fmt.Sprint(n)) {
			return n
		}
	}
}

// isKey is the section 'Words', byte by byte.
func isKey(key string) bool {
	for i := range len(key) {
		if key[i] == 0x00 || key[i] == 0x0a || key[i] == 0x3d {
			return false
		}
	}
	return len(key) >= 1 && len(key) <= 32
}

// recorded is P9.2.
func recorded(p api.Pair) (string, api.Errno) {
	if !isKey(p.Key) {
		return "", api.ErrKey
	}
	if len(p.Value) > 1024 {
		return "", api.ErrLong
	}
	return fmt.Sprintf("%d %s=%s\n", leastLength(len(p.Key), len(p.Value)), p.Key, p.Value), api.OK
}

// written is P9.3.
func written(l []api.Pair) (string, int, api.Errno) {
	if len(l) > 64 {
		return "", 64, api.ErrFull
	}
	all := ""
	for i, p := range l {
		text, err := recorded(p)
		if err != api.OK {
			return "", i, err
		}
		if i > 0 && bytes.Compare([]byte(l[i-1].Key), []byte(p.Key)) >= 0 {
			return "", i, api.ErrOrder
		}
		all += text
	}
	return all, 0, api.OK
}

var numberAhead = regexp.MustCompile(`^([1-9][0-9]{0,3}) `)

// refused is what P9.4 says of the record that a text begins with, told by the library's patterns; else its pair and its length.
func refused(text string) (api.Pair, int, api.Errno) {
	digits := numberAhead.FindStringSubmatch(text)
	if digits == nil {
		return api.Pair{}, 0, api.ErrRecord
	}
	n, _ := strconv.Atoi(digits[1])
	if n > len(text) {
		return api.Pair{}, 0, api.ErrRecord
	}
	inner, ok := strings.CutSuffix(text[:n], "\n")
	if !ok || !strings.Contains(inner, "=") {
		return api.Pair{}, 0, api.ErrRecord
	}
	parts := strings.SplitN(inner[len(digits[0]):], "=", 2)
	p := api.Pair{Key: parts[0], Value: parts[1]}
	if !isKey(p.Key) {
		return api.Pair{}, 0, api.ErrKey
	}
	if len(p.Value) > 1024 {
		return api.Pair{}, 0, api.ErrLong
	}
	if n != leastLength(len(p.Key), len(p.Value)) {
		return api.Pair{}, 0, api.ErrRecord
	}
	return p, n, api.OK
}

// read is P9.4.
func read(text string) ([]api.Pair, int, api.Errno) {
	var l []api.Pair
	for at := 0; at < len(text); {
		if len(l) == 64 {
			return nil, at, api.ErrFull
		}
		p, n, err := refused(text[at:])
		if err == api.OK && len(l) > 0 && bytes.Compare([]byte(l[len(l)-1].Key), []byte(p.Key)) >= 0 {
			err = api.ErrOrder
		}
		if err != api.OK {
			return nil, at, err
		}
		l = append(l, p)
		at += n
	}
	return l, 0, api.OK
}

// overlaid is P9.6, told by going through all keys.
func overlaid(l, m []api.Pair) ([]api.Pair, api.Errno) {
	for _, list := range [][]api.Pair{l, m} {
		if _, _, err := written(list); err != api.OK {
			return nil, err
		}
	}
	var all []api.Pair
	for _, p := range l {
		if !slices.ContainsFunc(m, func(q api.Pair) bool { return q.Key == p.Key }) {
			all = append(all, p)
		}
	}
	all = append(all, m...)
	slices.SortFunc(all, func(a, b api.Pair) int { return bytes.Compare([]byte(a.Key), []byte(b.Key)) })
	if len(all) > 64 {
		return nil, api.ErrFull
	}
	return all, api.OK
}

func wantRecord(t *testing.T, p api.Pair) {
	t.Helper()
	want, wantErr := recorded(p)
	b, err := pax.Record(p)
	if string(b) != want || err != wantErr {
		t.Errorf("Record of %q: %q %v, not %q %v", p, b, err, want, wantErr)
	}
}

func wantPut(t *testing.T, l []api.Pair, want string, wantAt int, wantErr api.Errno) {
	t.Helper()
	b, at, err := pax.Put(l)
	if string(b) != want || at != wantAt || err != wantErr {
		t.Errorf("Put of %q: %q at %d %v, not %q at %d %v", l, b, at, err, want, wantAt, wantErr)
	}
}

func wantGet(t *testing.T, text string, want []api.Pair, wantAt int, wantErr api.Errno) {
	t.Helper()
	l, at, err := pax.Get([]byte(text))
	if !slices.Equal(l, want) || at != wantAt || err != wantErr {
		t.Errorf("Get of %q: %q at %d %v, not %q at %d %v", text, l, at, err, want, wantAt, wantErr)
	}
}

// wantRead asks Get of what P9.4 says.
func wantRead(t *testing.T, text string) {
	t.Helper()
	l, at, err := read(text)
	wantGet(t, text, l, at, err)
}

func wantFind(t *testing.T, l []api.Pair, key, want string, wantErr api.Errno) {
	t.Helper()
	value, err := pax.Find(l, key)
	if value != want || err != wantErr {
		t.Errorf("Find of %q in %q: %q %v, not %q %v", key, l, value, err, want, wantErr)
	}
}

func wantOver(t *testing.T, l, m []api.Pair) {
	t.Helper()
	want, wantErr := overlaid(l, m)
	got, err := pax.Over(l, m)
	if !slices.Equal(got, want) || err != wantErr {
		t.Errorf("Over of %q and %q: %q %v, not %q %v", l, m, got, err, want, wantErr)
	}
}

// row are so many pairs, whose keys rise from a number on.
func row(from, count int) []api.Pair {
	var l []api.Pair
	for i := range count {
		l = append(l, api.Pair{Key: fmt.Sprintf("k%04d", from+i), Value: fmt.Sprint(from, i)})
	}
	return l
}

// mustPut is the records of a list that has them.
func mustPut(t *testing.T, l []api.Pair) string {
	t.Helper()
	b, at, err := pax.Put(l)
	if err != api.OK {
		t.Fatalf("Put of %q: %v at %d", l, err, at)
	}
	return string(b)
}

// anyText is of the bytes that tell, and of any.
func anyText(dice *rand.Rand, most int) string {
	text := make([]byte, dice.IntN(most+1))
	for i := range text {
		if text[i] = byte(dice.IntN(256)); dice.IntN(2) == 0 {
			text[i] = "abAB=\n\x00 \xff09"[dice.IntN(11)]
		}
	}
	return string(text)
}

// anyList has records: keys of any bytes that may be, with values of all lengths.
func anyList(dice *rand.Rand, most int) []api.Pair {
	values := map[string]string{}
	for range dice.IntN(most + 1) {
		key := anyText(dice, 1+dice.IntN(32))
		if !isKey(key) {
			continue
		}
		values[key] = anyText(dice, []int{0, 3, 6, 95, 990, 1024}[dice.IntN(6)])
	}
	var l []api.Pair
	for _, key := range slices.Sorted(maps.Keys(values)) {
		l = append(l, api.Pair{Key: key, Value: values[key]})
	}
	return l
}

// texts are all of an alphabet up to so many bytes, the empty one first.
func texts(alphabet string, most int) []string {
	all := []string{""}
	last := all
	for range most {
		var longer []string
		for _, text := range last {
			for i := range len(alphabet) {
				longer = append(longer, text+alphabet[i:i+1])
			}
		}
		all = append(all, longer...)
		last = longer
	}
	return all
}

// The chapter's table of examples, line by line.
func TestExamples(t *testing.T) {
	if n := pax.Size(api.Pair{Key: "a", Value: "b"}); n != 6 {
		t.Errorf("Size of a and b: %d", n)
	}
	for count, want := range map[int]int{91: 97, 92: 98, 93: 99, 94: 101, 95: 102} {
		if n := pax.Size(api.Pair{Key: "a", Value: vs(count)}); n != want {
			t.Errorf("Size of a and %d bytes: %d, not %d", count, n, want)
		}
	}
	if b, err := pax.Record(api.Pair{Key: "path", Value: "a/b"}); string(b) != "12 path=a/b\n" || err != api.OK {
		t.Errorf("Record: %q %v", b, err)
	}
	for _, p := range []api.Pair{{Key: "", Value: "b"}, {Key: "a=b", Value: "c"}} {
		if b, err := pax.Record(p); b != nil || err != api.ErrKey {
			t.Errorf("Record of %q: %q %v", p, b, err)
		}
	}
	wantPut(t, []api.Pair{{Key: "b", Value: "1"}, {Key: "a", Value: "2"}}, "", 1, api.ErrOrder)
	wantPut(t, []api.Pair{{Key: "a", Value: "1"}, {Key: "a", Value: "2"}}, "", 1, api.ErrOrder)
	wantGet(t, "6 a=b\n6 c=d\n", []api.Pair{{Key: "a", Value: "b"}, {Key: "c", Value: "d"}}, 0, api.OK)
	wantGet(t, "7 a=b\n", nil, 0, api.ErrRecord)
	wantGet(t, "06 a=b\n", nil, 0, api.ErrRecord)
	wantGet(t, "6 a=b\nx", nil, 6, api.ErrRecord)
	wantGet(t, "99 a="+vs(93)+"\n", []api.Pair{{Key: "a", Value: vs(93)}}, 0, api.OK)
	wantGet(t, "100 a="+vs(93)+"\n", nil, 0, api.ErrRecord)
	l, err := pax.Over([]api.Pair{{Key: "a", Value: "1"}, {Key: "b", Value: "2"}}, []api.Pair{{Key: "b", Value: "3"}, {Key: "c", Value: "4"}})
	if !slices.Equal(l, []api.Pair{{Key: "a", Value: "1"}, {Key: "b", Value: "3"}, {Key: "c", Value: "4"}}) || err != api.OK {
		t.Errorf("Over: %q %v", l, err)
	}
}

// P9.1 and P9.8: all lengths up to past the fifth digit, and those about the greater powers of ten; none of these texts need be a key or a value.
func TestSize(t *testing.T) {
	if testing.Short() {
		t.Skip("it asks for a text of 2^30 bytes")
	}
	noughts := make([]byte, 1<<30) // never gone through, so that no system need lay it out
	long := unsafe.String(&noughts[0], len(noughts))
	ask := func(key, value int) {
		t.Helper()
		if n := pax.Size(api.Pair{Key: long[:key], Value: long[:value]}); n != leastLength(key, value) {
			t.Errorf("Size of %d and %d bytes: %d, not %d", key, value, n, leastLength(key, value))
		}
	}
	for n := range 11000 {
		ask(n/3, n-n/3)
		ask(0, n)
		ask(n, 0)
	}
	for power := 10000; power <= 1000000000; power *= 10 {
		for away := -30; away <= 5; away++ {
			ask(1, power+away)
			ask(power/2, power-power/2+away)
			ask(power+away, 0)
		}
	}
	ask(1<<29, 1<<29)
	ask(0, 1<<30)
}

// P9.8: one byte more makes a record longer by one, or by two where its number gets a digit more.
func TestSizeRises(t *testing.T) {
	twice := map[int]int{}
	for key := range 40 {
		before := pax.Size(api.Pair{Key: vs(key)})
		for value := 1; value < 1200; value++ {
			n := pax.Size(api.Pair{Key: vs(key), Value: vs(value)})
			if n != before+1 && n != before+2 {
				t.Fatalf("%d and %d bytes: %d behind %d", key, value, n, before)
			}
			if n == before+2 {
				twice[n]++
			}
			before = n
		}
	}
	if got := slices.Sorted(maps.Keys(twice)); !slices.Equal(got, []int{11, 101, 1001}) {
		t.Errorf("two more at %v", got)
	}
}

// P9.2: each byte of a key, in each place; only three are none of a key's.
func TestRecordKeyBytes(t *testing.T) {
	for c := range 256 {
		for _, size := range []int{1, 2, 9, 31, 32, 33} {
			for _, at := range []int{0, size / 2, size - 1} {
				key := []byte(strings.Repeat("k", size))
				key[at] = byte(c)
				wantRecord(t, api.Pair{Key: string(key), Value: "x"})
			}
		}
	}
}

// P9.2: keys and values of all lengths about the bounds, ErrKey ahead of ErrLong.
func TestRecordLengths(t *testing.T) {
	for _, key := range []int{0, 1, 2, 31, 32, 33, 34, 1000} {
		for _, value := range []int{0, 1, 2, 3, 4, 5, 90, 91, 92, 93, 94, 960, 985, 990, 991, 992, 993, 1023, 1024, 1025, 2000} {
			wantRecord(t, api.Pair{Key: vs(key), Value: vs(value)})
		}
	}
	for _, c := range []struct {
		p   api.Pair
		err api.Errno
	}{
		{api.Pair{Key: vs(32), Value: vs(1024)}, api.OK},
		{api.Pair{Key: vs(33), Value: vs(1024)}, api.ErrKey},
		{api.Pair{Key: vs(32), Value: vs(1025)}, api.ErrLong},
		{api.Pair{Key: vs(33), Value: vs(1025)}, api.ErrKey},
		{api.Pair{Key: "", Value: vs(1025)}, api.ErrKey},
		{api.Pair{Key: "a\n", Value: vs(1025)}, api.ErrKey},
		{api.Pair{}, api.ErrKey},
	} {
		if b, err := pax.Record(c.p); err != c.err || (err == api.OK) != (b != nil) {
			t.Errorf("Record of %d and %d bytes: %q %v", len(c.p.Key), len(c.p.Value), b, err)
		}
	}
}

// P9.2: a value has any bytes, those that end a record too.
func TestRecordValueBytes(t *testing.T) {
	every := make([]byte, 256)
	for c := range every {
		every[c] = byte(c)
		wantRecord(t, api.Pair{Key: "a", Value: string(rune(c))})
		wantRecord(t, api.Pair{Key: "a", Value: string([]byte{byte(c), '\n', byte(c)})})
	}
	wantRecord(t, api.Pair{Key: "every", Value: strings.Repeat(string(every), 4)})
}

// P9.3: as many pairs as may be, and one more, which is told ahead of whatever else is wrong.
func TestPutFull(t *testing.T) {
	for _, count := range []int{0, 1, 2, 63, 64, 65, 66, 1000} {
		l := row(0, count)
		want, at, err := written(l)
		wantPut(t, l, want, at, err)
		if (err == api.ErrFull) != (count > 64) || err == api.ErrFull && at != 64 {
			t.Errorf("%d pairs: %v at %d", count, err, at)
		}
	}
	wantPut(t, make([]api.Pair, 64), "", 0, api.ErrKey)
	wantPut(t, make([]api.Pair, 65), "", 64, api.ErrFull)
	backwards := row(0, 65)
	slices.Reverse(backwards)
	wantPut(t, backwards, "", 64, api.ErrFull)
}

// P9.3: what is wrong with a pair at each place, and of two wrong pairs the first one.
func TestPutPlace(t *testing.T) {
	spoil := map[api.Errno]func(p *api.Pair){
		api.ErrKey:   func(p *api.Pair) { p.Key += "=" },
		api.ErrLong:  func(p *api.Pair) { p.Value = vs(1025) },
		api.ErrOrder: func(p *api.Pair) { p.Key = "a" },
	}
	for err, change := range spoil {
		for at := range 64 {
			l := row(0, 64)
			change(&l[at])
			if at == 0 && err == api.ErrOrder {
				wantPut(t, l, mustPut(t, l), 0, api.OK)
				continue
			}
			wantPut(t, l, "", at, err)
			for _, other := range spoil {
				if at < 63 {
					other(&l[at+1])
					wantPut(t, l, "", at, err)
				}
			}
		}
	}
}

// P9.3: of a pair's errors the key's is told first, that of the order last.
func TestPutOrderOfErrors(t *testing.T) {
	ahead := api.Pair{Key: "m", Value: "x"}
	wantPut(t, []api.Pair{ahead, {Key: "a=", Value: vs(1025)}}, "", 1, api.ErrKey)
	wantPut(t, []api.Pair{ahead, {Key: "", Value: ""}}, "", 1, api.ErrKey)
	wantPut(t, []api.Pair{ahead, {Key: "a", Value: vs(1025)}}, "", 1, api.ErrLong)
	wantPut(t, []api.Pair{ahead, {Key: "m", Value: vs(1025)}}, "", 1, api.ErrLong)
	wantPut(t, []api.Pair{ahead, {Key: "a", Value: vs(1024)}}, "", 1, api.ErrOrder)
}

// P9.3 and P9.4: keys rise by their bytes, not by letters, and one stands ahead of those that it begins.
func TestKeysRise(t *testing.T) {
	keys := []string{"\x01", "\t", " ", "0", "10", "9", "A", "Z", "a", "a ", "a\x01", "a!", "aa", "ab", "b", "\x7f", "\x80", "\xc3\xa9", "\xff", "\xff\xff"}
	for _, a := range keys {
		for _, b := range keys {
			l := []api.Pair{{Key: a}, {Key: b}}
			want, at, err := written(l)
			wantPut(t, l, want, at, err)
			if err != api.OK && (err != api.ErrOrder || at != 1) {
				t.Fatalf("%q and %q: %v at %d", a, b, err, at)
			}
			one, _ := recorded(l[0])
			two, _ := recorded(l[1])
			wantRead(t, one+two)
			if _, at, err := pax.Get([]byte(one + two)); (err == api.OK) != (a < b) || err != api.OK && at != len(one) {
				t.Errorf("Get of %q and %q: %v at %d", a, b, err, at)
			}
		}
	}
}

// P9.4: all short texts of the bytes that tell, alone, and behind a record.
func TestGetShort(t *testing.T) {
	for _, text := range texts("0156 a=\n", 6) {
		wantRead(t, text)
	}
	for _, text := range texts("56 ab=\n", 5) {
		for _, ahead := range []string{"6 a=b\n", "5 a=\n", "7 a=\n\n\n", "9 aaaaa=\n", "9 a=6 a=\n"} {
			wantRead(t, ahead+text)
		}
	}
	for _, text := range texts("a=\n\x00 7", 5) {
		for _, number := range []string{"5 ", "6 ", "7 ", "8 ", "9 "} {
			wantRead(t, number+text)
		}
	}
}

// P9.4: what a record may begin with.
func TestGetNumber(t *testing.T) {
	body := "a=" + vs(12) + "\n"
	for _, ahead := range []string{"", " ", "-", "-18 ", "+18 ", " 18 ", "018 ", "0018 ", "0 ", "00 ", "18", "18  ", "18\t", "18\n", "18\x00", "1 8 ", "1", "18x", "x18 ", "/8 ", ":8 ", "1/ ", "1: ", "0x12 ", "1_8 ", "\xb1\xb8 ", "１８ ", "17 ", "19 ", "2 ", "1 ", "1800 ", "00018 ", "18000 ", "18001 ", "10000 ", "99999 ", "9999 ", "18446744073709551634 ", "184467440737095516340 "} {
		wantGet(t, ahead+body, nil, 0, api.ErrRecord)
		wantGet(t, "5 Z=\n"+ahead+body, nil, 5, api.ErrRecord)
	}
	wantGet(t, "18 "+body, []api.Pair{{Key: "a", Value: vs(12)}}, 0, api.OK)
	for c := range 256 {
		wantRead(t, string([]byte{byte(c)})+"8 "+body)
		wantRead(t, "1"+string([]byte{byte(c)})+" "+body)
		wantRead(t, "18"+string([]byte{byte(c)})+body)
		wantRead(t, string([]byte{byte(c)})+"18 "+body)
		wantRead(t, string([]byte{byte(c)}))
	}
}

// P9.4: a byte that is no digit is none, even where a record would be just as long as it and the digits beside it would tell.
func TestGetNoDigit(t *testing.T) {
	for _, number := range []string{"7", "19", "71", "111", "200", "999", "1000", "1010"} {
		for at := range len(number) {
			for c := range 256 {
				if c >= '0' && c <= '9' {
					continue
				}
				digits := []byte(number)
				digits[at] = byte(c)
				signed, round := 0, 0
				for _, d := range digits {
					signed, round = signed*10+int(d)-'0', round*10+int(d-'0')
				}
				for _, size := range []int{signed, round} {
					if value := size - len(digits) - 4; value >= 0 {
						wantGet(t, string(digits)+" k="+vs(value)+"\n", nil, 0, api.ErrRecord)
					}
				}
			}
		}
	}
}

// P9.4: numbers of one to five digits, each as long as what is left, with one byte too few, and with one more.
func TestGetLengths(t *testing.T) {
	taken := 0
	for size := 1; size <= 10020; size++ {
		ahead := strconv.Itoa(size) + " k="
		if size <= len(ahead) {
			wantRead(t, ahead+"\n")
			continue
		}
		text := ahead + vs(size-len(ahead)-1) + "\n"
		for _, given := range []string{text, text[:size-1], text[:size-1] + "v", text + "v"} {
			wantRead(t, given)
		}
		if _, _, err := pax.Get([]byte(text)); err == api.OK {
			taken++
		} else if size > 10 && size != 100 && size != 1000 && size <= 1032 {
			t.Errorf("a record of %d bytes: %v", size, err)
		}
	}
	if taken != 1025 { // one for each length that a value may have
		t.Errorf("%d lengths of records", taken)
	}
}

// P9.4: where two numbers could be a record's, the greater one is refused, for every key.
func TestGetLesser(t *testing.T) {
	for key := 1; key <= 32; key++ {
		for lesser, greater := range map[int]int{9: 10, 99: 100, 999: 1000} {
			value := lesser - len(strconv.Itoa(lesser)) - 3 - key
			if value < 0 {
				continue
			}
			p := api.Pair{Key: vs(key), Value: vs(value)}
			wantGet(t, fmt.Sprintf("%d %s=%s\n", lesser, p.Key, p.Value), []api.Pair{p}, 0, api.OK)
			wantGet(t, fmt.Sprintf("%d %s=%s\n", greater, p.Key, p.Value), nil, 0, api.ErrRecord)
			wantGet(t, fmt.Sprintf("5 A=\n%d %s=%s\n", greater, p.Key, p.Value), nil, 5, api.ErrRecord)
		}
	}
}

// P9.4: each byte in each place of a key, keys of all lengths, and which = ends one.
func TestGetKey(t *testing.T) {
	for size := range 70 {
		for _, value := range []string{"", "x", "=", "==", "a=b", "\n", "\n\n", "\x00"} {
			key := strings.Repeat("k", size)
			n := leastLength(size, len(value))
			text := fmt.Sprintf("%d %s=%s\n", n, key, value)
			if size >= 1 && size <= 32 {
				wantGet(t, text, []api.Pair{{Key: key, Value: value}}, 0, api.OK)
			} else {
				wantGet(t, text, nil, 0, api.ErrKey)
			}
		}
	}
	for c := range 256 {
		for at := range 9 {
			key := []byte("keykeykey")
			key[at] = byte(c)
			text := fmt.Sprintf("15 %s=v\n", key)
			wantRead(t, text)
			if _, _, err := pax.Get([]byte(text)); (c == 0 || c == '\n') != (err == api.ErrKey) && !(c == '=' && at == 0) {
				t.Errorf("Get of %q: %v", text, err)
			}
		}
	}
	wantGet(t, "8 =a=b\n\n", nil, 0, api.ErrKey)
	wantGet(t, "7 \na=b\n", nil, 0, api.ErrKey)
	wantGet(t, "7  a=b\n", []api.Pair{{Key: " a", Value: "b"}}, 0, api.OK)
}

// P9.4: values of each length, and of any bytes.
func TestGetValue(t *testing.T) {
	for size := range 1030 {
		p := api.Pair{Key: "k", Value: strings.Repeat("\n", size)}
		text := fmt.Sprintf("%d k=%s\n", leastLength(1, size), p.Value)
		if size <= 1024 {
			wantGet(t, text, []api.Pair{p}, 0, api.OK)
		} else {
			wantGet(t, text, nil, 0, api.ErrLong)
		}
	}
	for c := range 256 {
		value := strings.Repeat(string([]byte{byte(c)}), 100)
		wantGet(t, "107 k="+value+"\n", []api.Pair{{Key: "k", Value: value}}, 0, api.OK)
	}
}

// P9.4: 64 records ahead of anything at all.
func TestGetFull(t *testing.T) {
	l := row(0, 64)
	full := mustPut(t, l)
	wantGet(t, full, l, 0, api.OK)
	for _, behind := range []string{"6 z=b\n", "x", "0", "\n", "6 =ab\n", "6 a=b\n", "1033 z=" + vs(1025) + "\n", "10 z=vvvv\n", full} {
		wantGet(t, full+behind, nil, len(full), api.ErrFull)
	}
	fewer := mustPut(t, l[:63])
	wantGet(t, fewer+"x", nil, len(fewer), api.ErrRecord)
	wantGet(t, fewer+"6 a=b\n", nil, len(fewer), api.ErrOrder)
	wantGet(t, fewer+"6 z=b\nx", nil, len(fewer)+6, api.ErrFull)
}

// P9.4: of a record's errors the one that the promise names first, and of two records' that of the first.
func TestGetOrderOfErrors(t *testing.T) {
	for _, c := range []struct {
		text string
		err  api.Errno
	}{
		{"1036 a\x00bc" + "=" + vs(1025) + "\n", api.ErrKey},
		{"1032 =" + vs(1025) + "\n", api.ErrKey},
		{"1033 a=" + vs(1025) + "\n", api.ErrLong},
		{"1033 m=" + vs(1025) + "\n", api.ErrLong},
		{"10 =vvvvv\n", api.ErrKey},
		{"10 a=vvvv\n", api.ErrRecord},
		{"10 m=vvvv\n", api.ErrRecord},
		{"6 =ab\n", api.ErrKey},
		{"9 a=vvvv\n", api.ErrOrder},
		{"9 m=vvvv\n", api.ErrOrder},
		{"9 a=vvvvv\n", api.ErrRecord},
		{"9 =vvvvvv\n", api.ErrRecord},
	} {
		for _, ahead := range []string{"6 l=b\n6 m=b\n", "8 Mm=\n\n\n9 m=6 z=\n"} {
			for _, behind := range []string{"", "x", "6 a=b\n", "6 n=b\n"} {
				text := ahead + c.text + behind
				wantRead(t, text)
				if _, at, err := pax.Get([]byte(text)); err != c.err || at != len(ahead) {
					t.Errorf("Get of %q: %v at %d, not %v", text, err, at, c.err)
				}
			}
		}
	}
}

// P9.4: records with some bytes made others, left out, put in, and cut.
func TestGetChanged(t *testing.T) {
	dice := newDice()
	refusals := map[api.Errno]int{}
	for range 30000 {
		b := []byte(mustPut(t, anyList(dice, 4)))
		for range 1 + dice.IntN(2) {
			at := dice.IntN(len(b) + 1)
			c := "0159 =\n\x00ab\xff"[dice.IntN(11)]
			switch kind := dice.IntN(4); {
			case kind == 0 || at == len(b):
				b = slices.Insert(b, at, c)
			case kind == 1:
				b = slices.Delete(b, at, at+1)
			case kind == 2:
				b[at] = c
			default:
				b = b[:at]
			}
		}
		wantRead(t, string(b))
		_, _, err := pax.Get(b)
		refusals[err]++
	}
	for _, err := range []api.Errno{api.OK, api.ErrRecord, api.ErrKey, api.ErrOrder} {
		if refusals[err] == 0 {
			t.Errorf("no answer %v among them", err)
		}
	}
}

// P9.5: the first of several, whatever the list is.
func TestFind(t *testing.T) {
	l := []api.Pair{{Key: "b", Value: "1"}, {Key: "a", Value: "2"}, {Key: "b", Value: "3"}, {Key: "", Value: "4"}, {Key: "x=", Value: vs(3000)}, {Key: "e"}}
	wantFind(t, l, "b", "1", api.OK)
	wantFind(t, l, "a", "2", api.OK)
	wantFind(t, l, "", "4", api.OK)
	wantFind(t, l, "x=", vs(3000), api.OK)
	wantFind(t, l, "e", "", api.OK)
	for _, key := range []string{"c", "x", "B", "a ", "ab", "\x00", "1", "3", vs(3000)} {
		wantFind(t, l, key, "", api.ErrNone)
	}
	wantFind(t, nil, "a", "", api.ErrNone)
	wantFind(t, nil, "", "", api.ErrNone)
	wantFind(t, []api.Pair{}, "", "", api.ErrNone)
	many := row(0, 5000)
	for _, at := range []int{0, 63, 64, 65, 4999} {
		wantFind(t, many, many[at].Key, many[at].Value, api.OK)
	}
}

// P9.6: what Put says of l, then of m, then whether the keys are too many.
func TestOverErrors(t *testing.T) {
	wrong := map[api.Errno][]api.Pair{
		api.ErrFull:  row(0, 65),
		api.ErrKey:   {{Key: "a=b"}},
		api.ErrLong:  {{Key: "a"}, {Key: "b", Value: vs(1025)}},
		api.ErrOrder: {{Key: "a"}, {Key: "b"}, {Key: "b"}},
	}
	for err, l := range wrong {
		for _, m := range [][]api.Pair{nil, row(0, 3), row(100, 64), row(0, 66), {{Key: ""}}, {{Key: "z"}, {Key: "y"}}, {{Key: "z", Value: vs(1025)}}} {
			wantOver(t, l, m)
			if got, e := pax.Over(l, m); len(got) != 0 || e != err {
				t.Errorf("Over of %q and %q: %q %v, not %v", l, m, got, e, err)
			}
		}
		for _, m := range [][]api.Pair{nil, row(0, 3), row(100, 64)} {
			wantOver(t, m, l)
			if got, e := pax.Over(m, l); len(got) != 0 || e != err {
				t.Errorf("Over of %q and %q: %q %v, not %v", m, l, got, e, err)
			}
		}
	}
}

// P9.6: as many keys as may be, and one more, alike in both lists and not.
func TestOverFull(t *testing.T) {
	for _, c := range []struct {
		l, m []api.Pair
		err  api.Errno
	}{
		{row(0, 64), row(0, 64), api.OK},
		{row(0, 32), row(32, 32), api.OK},
		{row(32, 32), row(0, 32), api.OK},
		{row(0, 63), row(63, 1), api.OK},
		{row(0, 64), row(10, 1), api.OK},
		{row(0, 64), nil, api.OK},
		{nil, row(0, 64), api.OK},
		{row(0, 64), row(64, 1), api.ErrFull},
		{row(1, 64), row(0, 1), api.ErrFull},
		{row(0, 1), row(1, 64), api.ErrFull},
		{row(0, 33), row(33, 32), api.ErrFull},
		{row(0, 64), row(1, 64), api.ErrFull},
		{row(0, 64), row(64, 64), api.ErrFull},
	} {
		wantOver(t, c.l, c.m)
		got, err := pax.Over(c.l, c.m)
		if err != c.err || err != api.OK && len(got) != 0 {
			t.Errorf("Over of %d and %d: %d %v", len(c.l), len(c.m), len(got), err)
		}
	}
}

// P9.6 and R2: any two lists; asked again, they are answered the same.
func TestOver(t *testing.T) {
	dice := newDice()
	for range 2000 {
		l, m := anyList(dice, 70), anyList(dice, 70)
		for _, p := range l {
			if dice.IntN(3) == 0 && !slices.ContainsFunc(m, func(q api.Pair) bool { return q.Key == p.Key }) {
				m = append(m, api.Pair{Key: p.Key, Value: "another one"})
			}
		}
		slices.SortFunc(m, func(a, b api.Pair) int { return strings.Compare(a.Key, b.Key) })
		wantOver(t, l, m)
		wantOver(t, l, m)
		wantOver(t, m, l)
	}
	for range 50 {
		wantOver(t, row(0, 40), row(20, 40))
	}
}

// P9.7: of the pairs of lists and back; and a list without records is not read.
func TestThereAndBack(t *testing.T) {
	dice := newDice()
	for range 3000 {
		l := anyList(dice, []int{1, 3, 64}[dice.IntN(3)])
		text := mustPut(t, l)
		wantGet(t, text, l, 0, api.OK)
		joined := ""
		for _, p := range l {
			b, err := pax.Record(p)
			if err != api.OK || len(b) != pax.Size(p) {
				t.Errorf("Record of %q: %q %v", p, b, err)
			}
			joined += string(b)
		}
		if joined != text {
			t.Errorf("Put of %q is not its records", l)
		}
	}
	wantGet(t, "", nil, 0, api.OK)
	wantPut(t, nil, "", 0, api.OK)
}

// P9.7: where Get takes bytes that Put did not make, Put makes them.
func TestBackAndThere(t *testing.T) {
	taken := 0
	for _, text := range append(texts("567 a=\n", 7), texts("5 aZ=\n", 6)...) {
		l, _, err := pax.Get([]byte(text))
		if err != api.OK {
			continue
		}
		taken++
		wantPut(t, l, text, 0, api.OK)
	}
	if taken < 20 {
		t.Errorf("Get took %d texts", taken)
	}
}

// P9.7: no beginning of a record is records, but none of it and all of it; the same behind another one.
func TestBeginnings(t *testing.T) {
	dice := newDice()
	for range 300 {
		for _, p := range anyList(dice, 3) {
			b, _ := pax.Record(p)
			ahead := "5 \x01=\n"
			for size := range len(b) + 1 {
				_, _, err := pax.Get(b[:size])
				if (err == api.OK) != (size == 0 || size == len(b)) {
					t.Errorf("Get of %d bytes of %q: %v", size, b, err)
				}
				_, at, err := pax.Get(append([]byte(ahead), b[:size]...))
				if p.Key > "\x01" && (err == api.OK) != (size == 0 || size == len(b)) || err != api.OK && at != len(ahead) {
					t.Errorf("Get of %d bytes of %q behind another: %v at %d", size, b, err, at)
				}
			}
		}
	}
	for _, value := range []string{"", "\n", "\n\n\n", "=\n", "\n5 b=\n", strings.Repeat("\n", 93), strings.Repeat("6 a=b\n", 100)} {
		b, _ := pax.Record(api.Pair{Key: "k", Value: value})
		for size := 1; size < len(b); size++ {
			if _, at, err := pax.Get(b[:size]); err != api.ErrRecord || at != 0 {
				t.Errorf("Get of %q: %v at %d", b[:size], err, at)
			}
		}
	}
}

// P9.9: no pairs, on either side.
func TestOverNothing(t *testing.T) {
	dice := newDice()
	for range 300 {
		l := anyList(dice, 64)
		for _, none := range [][]api.Pair{nil, {}} {
			for _, sides := range [][2][]api.Pair{{l, none}, {none, l}} {
				got, err := pax.Over(sides[0], sides[1])
				if !slices.Equal(got, l) || err != api.OK {
					t.Errorf("Over of %q and %q: %q %v", sides[0], sides[1], got, err)
				}
			}
		}
	}
}

// P9.9: three lists, few of whose keys are unlike.
func TestOverThree(t *testing.T) {
	dice := newDice()
	some := func(most int) []api.Pair {
		var l []api.Pair
		for key := range most {
			if dice.IntN(3) > 0 {
				l = append(l, api.Pair{Key: fmt.Sprintf("k%02d", key), Value: fmt.Sprint(dice.IntN(1000))})
			}
		}
		return l
	}
	over := func(l, m []api.Pair) []api.Pair {
		got, err := pax.Over(l, m)
		if err != api.OK {
			t.Fatalf("Over of %q and %q: %v", l, m, err)
		}
		return got
	}
	for range 2000 {
		most := 1 + dice.IntN(64)
		a, b, c := some(most), some(most), some(most)
		if !slices.Equal(over(over(a, b), c), over(a, over(b, c))) {
			t.Errorf("%q, %q, %q: it tells which two are first", a, b, c)
		}
	}
}

// pairsWithRoom is a list with others in the room behind its end.
func pairsWithRoom(l []api.Pair) ([]api.Pair, []api.Pair) {
	room := append(slices.Clone(l), api.Pair{Key: "zz", Value: "room"}, api.Pair{Key: "a", Value: "room"}, api.Pair{})
	return room[:len(l)], room
}

// P9.10: no argument is changed, nor the room behind its end; the room does not tell, either.
func TestArgumentsStay(t *testing.T) {
	dice := newDice()
	lists := [][]api.Pair{nil, row(0, 64), row(0, 65), {{Key: "b"}, {Key: "a"}}, {{Key: "="}}}
	for range 50 {
		lists = append(lists, anyList(dice, 6))
	}
	for _, l := range lists {
		for _, m := range lists {
			one, oneRoom := pairsWithRoom(l)
			two, twoRoom := pairsWithRoom(m)
			oneThen, twoThen := slices.Clone(oneRoom), slices.Clone(twoRoom)
			want, at, err := written(l)
			wantPut(t, one, want, at, err)
			wantFind(t, one, "nobody", "", api.ErrNone)
			wantOver(t, one, two)
			if !slices.Equal(oneRoom, oneThen) || !slices.Equal(twoRoom, twoThen) {
				t.Fatalf("%q or %q was changed", l, m)
			}
		}
	}
	for _, text := range []string{"", "6 a=b\n", "6 a=b\n6 c=d\n", "7 a=b\n", "6 a=b", "9 =", "5", "10 a=vvvv\n"} {
		for _, behind := range []string{"", "\n", "6 z=b\n", " a=b\n"} {
			room := []byte(text + behind)
			want, wantAt, wantErr := read(text)
			l, at, err := pax.Get(room[:len(text)])
			if !slices.Equal(l, want) || at != wantAt || err != wantErr || string(room) != text+behind {
				t.Errorf("Get of %q with %q behind: %q at %d %v, and %q", text, behind, l, at, err, room)
			}
		}
	}
}

// P9.10: what is read is not kept: the caller may write over the bytes, and over the lists.
func TestArgumentsAreNotKept(t *testing.T) {
	want := []api.Pair{{Key: "a", Value: "b"}, {Key: "c", Value: "d=\n"}}
	b := []byte("6 a=b\n8 c=d=\n\n")
	l, _, err := pax.Get(b)
	for i := range b {
		b[i] = 'x'
	}
	if !slices.Equal(l, want) || err != api.OK {
		t.Errorf("Get's pairs are pieces of the bytes: %q %v", l, err)
	}
	for _, sides := range [][2][]api.Pair{{want, nil}, {nil, want}, {want[:1], want}, {want, want[1:]}} {
		one, two := slices.Clone(sides[0]), slices.Clone(sides[1])
		got, _ := pax.Over(one, two)
		clear(one)
		clear(two)
		if !slices.Equal(got, want) {
			t.Errorf("Over's list is one that it was given: %q", got)
		}
	}
}

// P9.10 and R2: what the caller writes into an answer, its spare room too, is not to be seen anywhere.
func TestAnswersAreNew(t *testing.T) {
	for _, count := range []int{1, 2, 3, 5, 17, 64} {
		l := row(0, count)
		then := slices.Clone(l)
		text := mustPut(t, l)
		fill := func(b []byte) {
			for i := range b[:cap(b)] {
				b[:cap(b)][i] = 0xee
			}
		}
		record, _ := pax.Record(l[0])
		records, _, _ := pax.Put(l)
		fill(record)
		fill(records)
		wantRecord(t, l[0])
		wantPut(t, l, text, 0, api.OK)
		given := []byte(text)
		read, _, _ := pax.Get(given)
		left, _ := pax.Over(l, nil)
		right, _ := pax.Over(nil, l)
		both, _ := pax.Over(l, l)
		for _, list := range [][]api.Pair{read, left, right, both} {
			clear(list[:cap(list)])
			if !slices.Equal(l, then) || string(given) != text {
				t.Fatalf("an answer is an argument: %q", l)
			}
		}
		wantGet(t, text, then, 0, api.OK)
		wantOver(t, l, nil)
		wantOver(t, nil, l)
		wantOver(t, l, l)
	}
}

// R1: great arguments are answered, without being gone through.
func TestGreat(t *testing.T) {
	great := strings.Repeat("1", 1<<22)
	wantGet(t, great, nil, 0, api.ErrRecord)
	wantGet(t, strings.Repeat(" ", 1<<20), nil, 0, api.ErrRecord)
	wantGet(t, "9999 "+great, nil, 0, api.ErrRecord)
	wantGet(t, "6 a=b\n"+great, nil, 6, api.ErrRecord)
	wantRecord(t, api.Pair{Key: great, Value: great})
	wantRecord(t, api.Pair{Key: "a", Value: great})
	wantPut(t, []api.Pair{{Key: "a"}, {Key: great}}, "", 1, api.ErrKey)
	wantPut(t, make([]api.Pair, 1<<20), "", 64, api.ErrFull)
	wantFind(t, []api.Pair{{Key: great, Value: "1"}}, great, "1", api.OK)
	wantOver(t, make([]api.Pair, 1<<20), nil)
}

// R1: any bytes are answered, as P9.4 says; what was taken is made again.
func FuzzGet(f *testing.F) {
	for _, text := range []string{"", "6 a=b\n", "6 a=b\n6 c=d\n", "7 a=b\n", "06 a=b\n", "10 a=vvvv\n", "7 \na=b\n", "99 a=" + vs(93) + "\n", "1033 a=" + vs(1025) + "\n", "6 a=b\n6 a=b\n"} {
		f.Add([]byte(text))
	}
	f.Fuzz(func(t *testing.T, b []byte) {
		wantRead(t, string(b))
		if l, _, err := pax.Get(b); err == api.OK {
			wantPut(t, l, string(b), 0, api.OK)
		}
	})
}

// R1: any texts as pairs are answered, as P9.2, P9.3 and P9.6 say.
func FuzzPairs(f *testing.F) {
	f.Add("a", "b", "c", "d")
	f.Add("", "", "a=", "\n")
	f.Add("a", vs(93), "a", vs(1025))
	f.Fuzz(func(t *testing.T, key, value, key2, value2 string) {
		p, q := api.Pair{Key: key, Value: value}, api.Pair{Key: key2, Value: value2}
		wantRecord(t, p)
		want, at, err := written([]api.Pair{p, q})
		wantPut(t, []api.Pair{p, q}, want, at, err)
		wantOver(t, []api.Pair{p}, []api.Pair{q})
	})
}
