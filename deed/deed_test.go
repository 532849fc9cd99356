package deed_test

import (
	"bytes"
	"encoding/binary"
	"encoding/hex"
	"fmt"
	"math"
	"math/rand/v2"
	"reflect"
	"slices"
	"strings"
	"testing"

	"tabulary/api"
	"tabulary/deed"
)

// The errors' numbers and the kinds, as the chapter tells them.
const (
	ok       api.Errno = 0
	errArg   api.Errno = 1
	errLong  api.Errno = 2
	errShape api.Errno = 6
	errId    api.Errno = 200
	errShort api.Errno = 201

	begin  = 1
	finish = 2
	drop   = 3
	find   = 4
	list   = 5
)

func newDice() *rand.Rand { return rand.New(rand.NewPCG(20, 21)) }

func pick[T any](dice *rand.Rand, from []T) T { return from[dice.IntN(len(from))] }

// letters are all bytes that an archive's name has.
const letters = "abcdefghijklmnopqrstuvwxyz0123456789-_"

// isId is the section 'Words'.
func isId(s string) bool {
	for _, c := range []byte(s) {
		if strings.IndexByte(letters, c) < 0 {
			return false
		}
	}
	return 1 <= len(s) && len(s) <= 32
}

// parts are what each kind has, in the chapter's order.
var parts = map[uint8]string{begin: "ik", finish: "km", drop: "ik", find: "i", list: ""}

func isZero(m api.Manifest) bool {
	return m.Size == 0 && m.Stripes == 0 && m.Whole == api.Digest{} && len(m.Shards) == 0
}

// checked is P20.1.
func checked(d api.Deed) api.Errno {
	has, is := parts[d.Kind]
	switch {
	case !is:
		return errArg
	case strings.Contains(has, "i") && !isId(d.Id):
		return errId
	case strings.Contains(has, "m") && len(d.M.Shards) > 32:
		return errLong
	case !strings.Contains(has, "i") && d.Id != "":
		return errShape
	case !strings.Contains(has, "k") && d.Key != 0:
		return errShape
	case !strings.Contains(has, "m") && !isZero(d.M):
		return errShape
	}
	return ok
}

// checkedReply is P20.4.
func checkedReply(r api.Reply) api.Errno {
	if r.Code < 0 || r.Code > 65535 {
		return errArg
	}
	if r.Paper.Id != "" && !isId(r.Paper.Id) {
		return errId
	}
	if len(r.Paper.M.Shards) > 32 || len(r.Ids) > 32 {
		return errLong
	}
	for _, id := range r.Ids {
		if !isId(id) {
			return errId
		}
	}
	return ok
}

func laidName(s string) []byte { return append([]byte{byte(len(s))}, s...) }

func laidKey(key uint64) []byte { return binary.BigEndian.AppendUint64(nil, key) }

func laidManifest(m api.Manifest) []byte {
	b := binary.BigEndian.AppendUint32(nil, m.Size)
	b = binary.BigEndian.AppendUint16(b, m.Stripes)
	b = append(b, m.Whole[:]...)
	b = append(b, byte(len(m.Shards)))
	for _, d := range m.Shards {
		b = append(b, d[:]...)
	}
	return b
}

// laid is the section 'As bytes', of deeds.
func laid(d api.Deed) []byte {
	b := []byte{d.Kind}
	for _, part := range parts[d.Kind] {
		switch part {
		case 'i':
			b = append(b, laidName(d.Id)...)
		case 'k':
			b = append(b, laidKey(d.Key)...)
		case 'm':
			b = append(b, laidManifest(d.M)...)
		}
	}
	return b
}

// laidReply is the section 'As bytes', of replies.
func laidReply(r api.Reply) []byte {
	live := byte(0)
	if r.Paper.Live {
		live = 1
	}
	b := []byte{byte(r.Code >> 8), byte(r.Code)}
	b = slices.Concat(b, laidName(r.Paper.Id), laidKey(r.Paper.Key), []byte{live}, laidManifest(r.Paper.M), []byte{byte(len(r.Ids))})
	for _, id := range r.Ids {
		b = append(b, laidName(id)...)
	}
	return b
}

// input is what is still to be read, and the first error that was met.
type input struct {
	b   []byte
	err api.Errno
}

// meet notes an error, unless there is one.
func (in *input) meet(is bool, err api.Errno) {
	if in.err == ok && is {
		in.err = err
	}
}

// take answers bytes, and noughts as soon as there is an error.
func (in *input) take(size int) []byte {
	in.meet(len(in.b) < size, errShort)
	if in.err != ok {
		return make([]byte, size)
	}
	taken := bytes.Clone(in.b[:size])
	in.b = in.b[size:]
	return taken
}

func (in *input) name(least int) string {
	n := int(in.take(1)[0])
	in.meet(n < least || n > 32, errId)
	if in.err != ok {
		return ""
	}
	s := string(in.take(n))
	in.meet(n > 0 && !isId(s), errId)
	return s
}

func (in *input) count() int {
	n := int(in.take(1)[0])
	in.meet(n > 32, errLong)
	if in.err != ok {
		return 0
	}
	return n
}

func (in *input) key() uint64 { return binary.BigEndian.Uint64(in.take(8)) }

func (in *input) manifest() api.Manifest {
	var m api.Manifest
	m.Size = binary.BigEndian.Uint32(in.take(4))
	m.Stripes = binary.BigEndian.Uint16(in.take(2))
	m.Whole = api.Digest(in.take(32))
	for range in.count() {
		m.Shards = append(m.Shards, api.Digest(in.take(32)))
	}
	return m
}

// read is P20.3.
func read(b []byte) (api.Deed, api.Errno) {
	in := &input{b: b}
	d := api.Deed{Kind: in.take(1)[0]}
	_, is := parts[d.Kind]
	in.meet(!is, errArg)
	for _, part := range parts[d.Kind] {
		switch part {
		case 'i':
			d.Id = in.name(1)
		case 'k':
			d.Key = in.key()
		case 'm':
			d.M = in.manifest()
		}
	}
	in.meet(len(in.b) > 0, errShape)
	if in.err != ok {
		return api.Deed{}, in.err
	}
	return d, ok
}

// readReply is P20.5.
func readReply(b []byte) (api.Reply, api.Errno) {
	in := &input{b: b}
	var r api.Reply
	r.Code = api.Errno(binary.BigEndian.Uint16(in.take(2)))
	r.Paper.Id = in.name(0)
	r.Paper.Key = in.key()
	live := in.take(1)[0]
	in.meet(live > 1, errArg)
	r.Paper.Live = live == 1
	r.Paper.M = in.manifest()
	for range in.count() {
		r.Ids = append(r.Ids, in.name(1))
	}
	in.meet(len(in.b) > 0, errShape)
	if in.err != ok {
		return api.Reply{}, in.err
	}
	return r, ok
}

func sameManifest(a, b api.Manifest) bool {
	return a.Size == b.Size && a.Stripes == b.Stripes && a.Whole == b.Whole && slices.Equal(a.Shards, b.Shards)
}

// same tells whether two deeds are one, where an empty list is nil or empty.
func same(a, b api.Deed) bool {
	return a.Kind == b.Kind && a.Id == b.Id && a.Key == b.Key && sameManifest(a.M, b.M)
}

func sameReply(a, b api.Reply) bool {
	return a.Code == b.Code && a.Paper.Id == b.Paper.Id && a.Paper.Key == b.Paper.Key && a.Paper.Live == b.Paper.Live && sameManifest(a.Paper.M, b.Paper.M) && slices.Equal(a.Ids, b.Ids)
}

// short tells a thing as far as it can be read on a line.
func short(a any) string {
	s := fmt.Sprintf("%+v", a)
	if b, is := a.([]byte); is {
		s = hex.EncodeToString(b)
	}
	if len(s) > 300 {
		return s[:300] + fmt.Sprintf(".. (%d)", len(s))
	}
	return s
}

// wantCheck holds Check and Pack of a deed against an error.
func wantCheck(tb testing.TB, d api.Deed, want api.Errno) {
	tb.Helper()
	if got := deed.Check(d); got != want {
		tb.Errorf("Check(%s): %d, not %d", short(d), got, want)
	}
	b, got := deed.Pack(d)
	if got != want {
		tb.Errorf("Pack(%s): %d, not %d", short(d), got, want)
	}
	if want != ok && b != nil {
		tb.Errorf("Pack(%s): bytes beside error %d", short(d), got)
	}
}

func wantReplyErr(tb testing.TB, r api.Reply, want api.Errno) {
	tb.Helper()
	b, got := deed.PackReply(r)
	if got != want {
		tb.Errorf("PackReply(%s): %d, not %d", short(r), got, want)
	}
	if want != ok && b != nil {
		tb.Errorf("PackReply(%s): bytes beside error %d", short(r), got)
	}
}

// wantParse holds Parse against a deed, or an error.
func wantParse(tb testing.TB, b []byte, want api.Deed, wantErr api.Errno) {
	tb.Helper()
	d, err := deed.Parse(b)
	if err != wantErr {
		tb.Errorf("Parse(%s): %d, not %d", short(b), err, wantErr)
	} else if !same(d, want) || err != ok && !reflect.DeepEqual(d, api.Deed{}) {
		tb.Errorf("Parse(%s): %s, not %s", short(b), short(d), short(want))
	}
}

func wantParseReply(tb testing.TB, b []byte, want api.Reply, wantErr api.Errno) {
	tb.Helper()
	r, err := deed.ParseReply(b)
	if err != wantErr {
		tb.Errorf("ParseReply(%s): %d, not %d", short(b), err, wantErr)
	} else if !sameReply(r, want) || err != ok && !reflect.DeepEqual(r, api.Reply{}) {
		tb.Errorf("ParseReply(%s): %s, not %s", short(b), short(r), short(want))
	}
}

func wantNoParse(tb testing.TB, b []byte, want api.Errno) {
	tb.Helper()
	wantParse(tb, b, api.Deed{}, want)
}

func wantNoReply(tb testing.TB, b []byte, want api.Errno) {
	tb.Helper()
	wantParseReply(tb, b, api.Reply{}, want)
}

// wantPacked holds the calls on a deed against the chapter told over again, there and back.
func wantPacked(tb testing.TB, d api.Deed) {
	tb.Helper()
	want := checked(d)
	wantCheck(tb, d, want)
	if want != ok {
		return
	}
	b, _ := deed.Pack(d)
	if !bytes.Equal(b, laid(d)) {
		tb.Errorf("Pack(%s): %s, not %s", short(d), short(b), short(laid(d)))
	}
	wantParse(tb, b, d, ok)
}

func wantPackedReply(tb testing.TB, r api.Reply) {
	tb.Helper()
	want := checkedReply(r)
	wantReplyErr(tb, r, want)
	if want != ok {
		return
	}
	b, _ := deed.PackReply(r)
	if !bytes.Equal(b, laidReply(r)) {
		tb.Errorf("PackReply(%s): %s, not %s", short(r), short(b), short(laidReply(r)))
	}
	wantParseReply(tb, b, r, ok)
}

// wantRead holds Parse against the chapter told over again, and what it answers there and back.
func wantRead(tb testing.TB, b []byte) {
	tb.Helper()
	d, err := read(b)
	wantParse(tb, b, d, err)
	if err != ok {
		return
	}
	got, _ := deed.Parse(b)
	if again, err := deed.Pack(got); err != ok || !bytes.Equal(again, b) {
		tb.Errorf("Pack of Parse(%s): %s, %d", short(b), short(again), err)
	}
	if err := deed.Check(got); err != ok {
		tb.Errorf("Check of Parse(%s): %d", short(b), err)
	}
}

func wantReadReply(tb testing.TB, b []byte) {
	tb.Helper()
	r, err := readReply(b)
	wantParseReply(tb, b, r, err)
	if err != ok {
		return
	}
	got, _ := deed.ParseReply(b)
	if again, err := deed.PackReply(got); err != ok || !bytes.Equal(again, b) {
		tb.Errorf("PackReply of ParseReply(%s): %s, %d", short(b), short(again), err)
	}
}

func mustPack(tb testing.TB, d api.Deed) []byte {
	tb.Helper()
	b, err := deed.Pack(d)
	if err != ok {
		tb.Fatalf("Pack(%s): %d", short(d), err)
	}
	return b
}

func mustPackReply(tb testing.TB, r api.Reply) []byte {
	tb.Helper()
	b, err := deed.PackReply(r)
	if err != ok {
		tb.Fatalf("PackReply(%s): %d", short(r), err)
	}
	return b
}

func fromHex(tb testing.TB, text string) []byte {
	tb.Helper()
	b, err := hex.DecodeString(strings.NewReplacer(" ", "", ",", "").Replace(text))
	if err != nil {
		tb.Fatal(err)
	}
	return b
}

// times is a byte to the base 16, so many times.
func times(text string, count int) string { return strings.Repeat(text, count) }

// digestOf is a digest that begins with a number, and goes on with ones beside it, so that each byte has a place of its own.
func digestOf(n int) api.Digest {
	var d api.Digest
	for i := range d {
		d[i] = byte(n + 5*i)
	}
	return d
}

// manifestOf is one of so many shards in which nothing is zero.
func manifestOf(shards int) api.Manifest {
	m := api.Manifest{Size: 0x91929394, Stripes: 0xa1a2, Whole: digestOf(200)}
	for i := range shards {
		m.Shards = append(m.Shards, digestOf(i+1))
	}
	return m
}

// deeds is a deed of each kind with something in each thing that it has.
func deeds() []api.Deed {
	return []api.Deed{
		{Kind: begin, Id: "a-1", Key: 0x4142434445464748},
		{Kind: finish, Key: 0x4142434445464748, M: manifestOf(3)},
		{Kind: finish, Key: 1},
		{Kind: drop, Id: letters[6:], Key: 3},
		{Kind: find, Id: "q"},
		{Kind: list},
	}
}

func replies() []api.Reply {
	return []api.Reply{
		{},
		{Code: 0x7172, Paper: api.Paper{Id: "some-name_0", Key: 0x4142434445464748, Live: true, M: manifestOf(5)}, Ids: []string{"a", "bc", letters[:32]}},
		{Code: 5, Paper: api.Paper{Id: "z", M: manifestOf(0)}},
		{Ids: []string{"0", "0", "-"}},
		{Paper: api.Paper{Live: true}},
	}
}

func TestNumbersOfTheChapter(t *testing.T) {
	if api.Begin != begin || api.Finish != finish || api.Drop != drop || api.Find != find || api.List != list {
		t.Error("other kinds")
	}
	if api.MaxId != 32 || api.MaxPapers != 32 || api.MaxSide != 32 {
		t.Error("other bounds")
	}
}

func TestExamples(t *testing.T) {
	packed := func(d api.Deed, want string) {
		t.Helper()
		if b, err := deed.Pack(d); err != ok || !bytes.Equal(b, fromHex(t, want)) {
			t.Errorf("Pack(%s): %x %d", short(d), b, err)
		}
		wantCheck(t, d, ok)
		wantParse(t, fromHex(t, want), d, ok)
	}
	packed(api.Deed{Kind: api.List}, "05")
	packed(api.Deed{Kind: api.Find, Id: "ab"}, "04 02 61 62")
	wantCheck(t, api.Deed{Kind: api.Find, Id: "AB"}, errId)
	packed(api.Deed{Kind: api.Begin, Id: "a", Key: 258}, "01 01 61 00 00 00 00 00 00 01 02")
	wantCheck(t, api.Deed{Kind: api.List, Key: 1}, errShape)
	wantCheck(t, api.Deed{Kind: 6}, errArg)
	wantNoParse(t, nil, errShort)
	wantNoParse(t, []byte{}, errShort)
	wantNoParse(t, fromHex(t, "04 00"), errId)
	wantNoParse(t, fromHex(t, "04 02 61"), errShort)
	wantNoParse(t, fromHex(t, "05 05"), errShape)
	wantNoParse(t, fromHex(t, "09"), errArg)
	reply := fromHex(t, "00 04, 00,"+times("00", 8)+"00,"+times("00", 4)+times("00", 2)+times("00", 32)+"00, 00")
	if b := mustPackReply(t, api.Reply{Code: 4}); !bytes.Equal(b, reply) {
		t.Errorf("PackReply(Code 4): %x", b)
	}
	wantParseReply(t, reply, api.Reply{Code: 4}, ok)
}

// TestAsBytes has the bytes of a deed of each kind, and of a reply, written out.
func TestAsBytes(t *testing.T) {
	const key = "4142434445464748"
	digest := func(first string) string { return first + times("11", 30) + "ff" }
	one := func(first byte) api.Digest {
		d := api.Digest(bytes.Repeat([]byte{0x11}, 32))
		d[0], d[31] = first, 0xff
		return d
	}
	m := api.Manifest{Size: 0x51525354, Stripes: 0x6162, Whole: one(0x71), Shards: []api.Digest{one(0x81), one(0x82)}}
	manifest := "51525354" + "6162" + digest("71") + "02" + digest("81") + digest("82")
	for _, x := range []struct {
		d    api.Deed
		want string
	}{
		{api.Deed{Kind: begin, Id: "ab0", Key: 0x4142434445464748}, "01" + "03 616230" + key},
		{api.Deed{Kind: finish, Key: 0x4142434445464748, M: m}, "02" + key + manifest},
		{api.Deed{Kind: drop, Id: "-_", Key: 0x4142434445464748}, "03" + "02 2d5f" + key},
		{api.Deed{Kind: find, Id: "z9"}, "04" + "02 7a39"},
		{api.Deed{Kind: list}, "05"},
	} {
		if b := mustPack(t, x.d); !bytes.Equal(b, fromHex(t, x.want)) {
			t.Errorf("Pack(%s): %x, not %s", short(x.d), b, x.want)
		}
		wantParse(t, fromHex(t, x.want), x.d, ok)
	}
	r := api.Reply{Code: 0xfedc, Paper: api.Paper{Id: "p", Key: 0x4142434445464748, Live: true, M: m}, Ids: []string{"x", "yz"}}
	want := fromHex(t, "fedc"+"01 70"+key+"01"+manifest+"02"+"01 78"+"02 797a")
	if b := mustPackReply(t, r); !bytes.Equal(b, want) {
		t.Errorf("PackReply: %x, not %x", b, want)
	}
	wantParseReply(t, want, r, ok)
	r.Paper.Live = false
	want[12] = 0
	if b := mustPackReply(t, r); !bytes.Equal(b, want) {
		t.Errorf("PackReply: %x, not %x", b, want)
	}
	wantParseReply(t, want, r, ok)
}

// names are texts of which some are archives' names.
func names() []string {
	l := []string{"", "a", "0", "-", "_", "a-b_c9", "A", "Z", "aB", "a b", " ", "a/b", "a.b", ".", "a\x00", "\x00", "\xff", "\u00e9", "\u017f", "a\u0131", "\u0660", "ab\n", "a+", "a=", letters}
	for n := 30; n <= 34; n++ {
		l = append(l, strings.Repeat("k", n))
	}
	return append(l, letters[:32], letters[6:], letters[:31]+"A", "A"+letters[:31], strings.Repeat("k", 255), strings.Repeat("k", 256), strings.Repeat("k", 257), strings.Repeat("k", 256+7))
}

// TestId: P20.1, each byte at each place.
func TestId(t *testing.T) {
	want := func(s string, want bool) {
		t.Helper()
		if deed.Id(s) != want {
			t.Errorf("Id(%q): %v", s, !want)
		}
	}
	for c := range 256 {
		is := strings.IndexByte(letters, byte(c)) >= 0
		b := string([]byte{byte(c)})
		want(b, is)
		for _, size := range []int{2, 3, 31, 32} {
			for at := range size {
				want(strings.Repeat("m", at)+b+strings.Repeat("m", size-at-1), is)
			}
		}
		want(strings.Repeat(b, 32), is)
		want(strings.Repeat(b, 33), false)
	}
	for size := range 600 {
		want(strings.Repeat("x", size), 1 <= size && size <= 32)
	}
	for _, s := range names() {
		want(s, isId(s))
	}
}

// manifests are right ones, too long ones, and ones of which one thing alone is not zero.
func manifests() []api.Manifest {
	l := []api.Manifest{{}, {Shards: []api.Digest{}}, {Size: 1}, {Size: 1 << 31}, {Stripes: 1}, {Stripes: 1 << 15}, {Whole: api.Digest{1}}, {Whole: api.Digest{31: 1}}, {Size: math.MaxUint32, Stripes: math.MaxUint16}}
	for _, n := range []int{1, 2, 31, 32, 33, 34, 255, 256, 257, 288} {
		l = append(l, api.Manifest{Shards: make([]api.Digest, n)})
	}
	for _, n := range []int{0, 1, 3, 32, 33, 256} {
		l = append(l, manifestOf(n))
	}
	return l
}

// TestEachPart: all kinds, with each part of a deed given and not given.
func TestEachPart(t *testing.T) {
	names, manifests := names(), manifests()
	for kind := range 256 {
		for _, id := range names {
			for _, key := range []uint64{0, 1, 1 << 63, math.MaxUint64} {
				wantPacked(t, api.Deed{Kind: uint8(kind), Id: id, Key: key})
			}
		}
		for _, m := range manifests {
			for _, id := range []string{"", "a", "A"} {
				for _, key := range []uint64{0, 2} {
					wantPacked(t, api.Deed{Kind: uint8(kind), Id: id, Key: key, M: m})
				}
			}
		}
	}
}

// TestCheckErrors: the errors by their words, and in their order.
func TestCheckErrors(t *testing.T) {
	long := api.Manifest{Shards: make([]api.Digest, 33)}
	for _, x := range []struct {
		d    api.Deed
		want api.Errno
	}{
		{api.Deed{}, errArg},
		{api.Deed{Kind: 255, Id: "a", Key: 1}, errArg},
		{api.Deed{Kind: 0, Id: "A", Key: 1, M: long}, errArg},
		{api.Deed{Kind: begin}, errId},
		{api.Deed{Kind: begin, Id: "A", M: manifestOf(1)}, errId},
		{api.Deed{Kind: begin, Id: "a", M: manifestOf(0)}, errShape},
		{api.Deed{Kind: begin, Id: "a", M: long}, errShape},
		{api.Deed{Kind: begin, Id: "a", M: api.Manifest{Shards: []api.Digest{{}}}}, errShape},
		{api.Deed{Kind: drop, Key: 1}, errId},
		{api.Deed{Kind: drop, Id: "a", Key: 1, M: long}, errShape},
		{api.Deed{Kind: find, Key: 1}, errId},
		{api.Deed{Kind: find, Id: "a", Key: 1}, errShape},
		{api.Deed{Kind: find, Id: "a", M: long}, errShape},
		{api.Deed{Kind: finish, Id: "a", M: long}, errLong},
		{api.Deed{Kind: finish, Id: "A", M: long}, errLong},
		{api.Deed{Kind: finish, Id: "a"}, errShape},
		{api.Deed{Kind: finish, Id: "A"}, errShape},
		{api.Deed{Kind: finish}, ok},
		{api.Deed{Kind: finish, M: manifestOf(32)}, ok},
		{api.Deed{Kind: finish, M: manifestOf(65536)}, errLong},
		{api.Deed{Kind: list, Id: "a"}, errShape},
		{api.Deed{Kind: list, Id: "A"}, errShape},
		{api.Deed{Kind: list, M: long}, errShape},
	} {
		wantCheck(t, x.d, x.want)
		if checked(x.d) != x.want {
			t.Errorf("the test's own Check(%s): %d", short(x.d), checked(x.d))
		}
	}
}

// TestNumbers: each bit of each number has a place of its own.
func TestNumbers(t *testing.T) {
	for bit := range 64 {
		n := uint64(1) << bit
		m := api.Manifest{Size: uint32(n), Stripes: uint16(n)}
		wantPacked(t, api.Deed{Kind: begin, Id: "a", Key: n})
		wantPacked(t, api.Deed{Kind: drop, Id: "a", Key: ^n})
		wantPacked(t, api.Deed{Kind: finish, Key: n, M: m})
		wantPackedReply(t, api.Reply{Code: api.Errno(uint16(n)), Paper: api.Paper{Key: n, M: m}})
	}
	for bit := range 256 {
		var d api.Digest
		d[bit/8] = 1 << (bit % 8)
		m := api.Manifest{Whole: d, Shards: []api.Digest{{1}, d}}
		wantPacked(t, api.Deed{Kind: finish, M: m})
		wantPackedReply(t, api.Reply{Paper: api.Paper{M: m}})
	}
}

// TestReplyParts: P20.4, with each thing of a reply right and wrong.
func TestReplyParts(t *testing.T) {
	for _, id := range names() {
		for _, live := range []bool{false, true} {
			wantPackedReply(t, api.Reply{Paper: api.Paper{Id: id, Live: live, Key: 9}})
		}
		wantPackedReply(t, api.Reply{Ids: []string{id}})
		wantPackedReply(t, api.Reply{Ids: []string{id, "b"}})
		wantPackedReply(t, api.Reply{Ids: []string{"b", "c", id}})
		wantPackedReply(t, api.Reply{Ids: append(slices.Repeat([]string{"b"}, 31), id)})
		wantPackedReply(t, api.Reply{Ids: append(slices.Repeat([]string{"b"}, 32), id)})
	}
	for _, m := range manifests() {
		wantPackedReply(t, api.Reply{Code: 3, Paper: api.Paper{M: m}})
		wantPackedReply(t, api.Reply{Code: 3, Paper: api.Paper{Id: "a", Live: true, M: m}, Ids: []string{"b"}})
	}
	for _, n := range []int{0, 1, 2, 31, 32, 33, 34, 255, 256, 257, 288, 65536} {
		wantPackedReply(t, api.Reply{Ids: slices.Repeat([]string{"id"}, n)})
		wantPackedReply(t, api.Reply{Ids: make([]string, n)})
	}
	wantPackedReply(t, api.Reply{Ids: []string{}, Paper: api.Paper{M: api.Manifest{Shards: []api.Digest{}}}})
}

func TestCodes(t *testing.T) {
	for n := api.Errno(0); n <= 65535; n++ {
		if n%97 == 0 || n < 400 || n > 65300 {
			wantReplyErr(t, api.Reply{Code: n}, ok)
			wantPackedReply(t, api.Reply{Code: n})
		}
	}
	for _, n := range []api.Errno{-1, -2, -65535, -65536, 65536, 65537, 1 << 17, 1 << 32, 1<<32 + 5, math.MaxInt, math.MinInt} {
		wantReplyErr(t, api.Reply{Code: n}, errArg)
	}
}

// TestReplyErrors: the errors by their words, and in their order.
func TestReplyErrors(t *testing.T) {
	long := api.Manifest{Shards: make([]api.Digest, 33)}
	many := slices.Repeat([]string{"a"}, 33)
	for _, x := range []struct {
		r    api.Reply
		want api.Errno
	}{
		{api.Reply{Code: -1, Paper: api.Paper{Id: "A", M: long}, Ids: many}, errArg},
		{api.Reply{Code: 65536, Ids: []string{""}}, errArg},
		{api.Reply{Paper: api.Paper{Id: "A", M: long}}, errId},
		{api.Reply{Paper: api.Paper{Id: "A"}, Ids: many}, errId},
		{api.Reply{Paper: api.Paper{Id: strings.Repeat("a", 33)}}, errId},
		{api.Reply{Paper: api.Paper{M: long}, Ids: []string{"A"}}, errLong},
		{api.Reply{Ids: append([]string{""}, many...)}, errLong},
		{api.Reply{Ids: many}, errLong},
		{api.Reply{Paper: api.Paper{M: long}}, errLong},
		{api.Reply{Paper: api.Paper{M: manifestOf(65536)}}, errLong},
		{api.Reply{Ids: many[:32]}, ok},
		{api.Reply{Ids: []string{""}}, errId},
		{api.Reply{Ids: []string{"a", "b", "A"}}, errId},
		{api.Reply{Ids: []string{strings.Repeat("a", 33)}}, errId},
		{api.Reply{Paper: api.Paper{Key: 5, Live: true, M: manifestOf(1)}}, ok},
	} {
		wantReplyErr(t, x.r, x.want)
		if checkedReply(x.r) != x.want {
			t.Errorf("the test's own PackReply(%s): %d", short(x.r), checkedReply(x.r))
		}
	}
}

// TestGreatest: all that may be, at once.
func TestGreatest(t *testing.T) {
	m := manifestOf(32)
	m.Size, m.Stripes = math.MaxUint32, math.MaxUint16
	id := strings.Repeat("_", 32)
	wantPacked(t, api.Deed{Kind: finish, Key: math.MaxUint64, M: m})
	wantPackedReply(t, api.Reply{Code: 65535, Paper: api.Paper{Id: id, Key: math.MaxUint64, Live: true, M: m}, Ids: slices.Repeat([]string{id}, 32)})
	if n := len(mustPack(t, api.Deed{Kind: finish, M: m})); n != 1+8+39+32*32 {
		t.Errorf("%d bytes", n)
	}
	if n := len(mustPackReply(t, api.Reply{Paper: api.Paper{Id: id, M: m}, Ids: slices.Repeat([]string{id}, 32)})); n != 2+33+9+39+32*32+1+32*33 {
		t.Errorf("%d bytes", n)
	}
}

// TestCutShortAndMore: P20.6, of each beginning, and of something behind.
func TestCutShortAndMore(t *testing.T) {
	more := [][]byte{{0}, {1}, {5}, {255}, make([]byte, 32), make([]byte, 1000)}
	for _, d := range deeds() {
		b := mustPack(t, d)
		for end := range b {
			wantNoParse(t, b[:end], errShort)
			wantNoParse(t, slices.Clip(b[:end]), errShort)
		}
		for _, x := range append(more, b) {
			wantNoParse(t, slices.Concat(b, x), errShape)
		}
		wantParse(t, b, d, ok)
	}
	for _, r := range replies() {
		b := mustPackReply(t, r)
		for end := range b {
			wantNoReply(t, b[:end], errShort)
			wantNoReply(t, slices.Clip(b[:end]), errShort)
		}
		for _, x := range append(more, b) {
			wantNoReply(t, slices.Concat(b, x), errShape)
		}
		wantParseReply(t, b, r, ok)
	}
}

// TestKindsParsed: a kind that is none is met ahead of what stands behind it.
func TestKindsParsed(t *testing.T) {
	for kind := range 256 {
		_, is := parts[uint8(kind)]
		for _, behind := range []int{0, 1, 8, 9, 200} {
			b := append([]byte{uint8(kind)}, make([]byte, behind)...)
			if !is {
				wantNoParse(t, b, errArg)
			}
			wantRead(t, b)
		}
	}
}

// TestNamesParsed: a length that is none is met at once, a byte that is none behind as many bytes as the name has.
func TestNamesParsed(t *testing.T) {
	for _, kind := range []byte{begin, drop, find} {
		for size := range 256 {
			b := []byte{kind, byte(size)}
			full := slices.Concat(b, bytes.Repeat([]byte("n"), size), make([]byte, 8))
			if size == 0 || size > 32 {
				wantNoParse(t, b, errId)
				wantNoParse(t, full, errId)
				continue
			}
			wantNoParse(t, b, errShort)
			wrong := slices.Concat(b, bytes.Repeat([]byte("N"), size))
			for end := 2; end < len(wrong); end++ {
				wantNoParse(t, wrong[:end], errShort)
			}
			wantNoParse(t, wrong, errId)
			wantNoParse(t, slices.Concat(wrong, full), errId)
			wantRead(t, full)
		}
		for c := range 256 {
			for at := range 3 {
				b := slices.Concat([]byte{kind, 3}, []byte("abc"), make([]byte, 8))
				b[2+at] = byte(c)
				wantRead(t, b)
				wantRead(t, b[:5])
			}
		}
	}
}

// TestReplyNamesParsed: the paper's Id may have no byte, the Ids may not.
func TestReplyNamesParsed(t *testing.T) {
	behind := mustPackReply(t, api.Reply{})[3:]
	for size := range 256 {
		b := []byte{0, 0, byte(size)}
		full := slices.Concat(b, bytes.Repeat([]byte("n"), size), behind)
		wrong := slices.Concat(b, bytes.Repeat([]byte("N"), size))
		inIds := slices.Concat([]byte{0, 0, 0}, behind[:len(behind)-1], []byte{1, byte(size)})
		if size > 32 {
			wantNoReply(t, b, errId)
			wantNoReply(t, full, errId)
			wantNoReply(t, inIds, errId)
			continue
		}
		wantNoReply(t, b, errShort)
		wantParseReply(t, full, api.Reply{Paper: api.Paper{Id: strings.Repeat("n", size)}}, ok)
		if size == 0 {
			wantNoReply(t, inIds, errId)
			continue
		}
		wantNoReply(t, wrong[:len(wrong)-1], errShort)
		wantNoReply(t, wrong, errId)
		wantNoReply(t, inIds, errShort)
		name := bytes.Repeat([]byte("n"), size)
		wantParseReply(t, slices.Concat(inIds, name), api.Reply{Ids: []string{string(name)}}, ok)
		name[size-1] = '.'
		wantNoReply(t, slices.Concat(inIds, name), errId)
		wantNoReply(t, slices.Concat(inIds, name[:size-1]), errShort)
	}
}

// TestCountsParsed: a number above 32 is met at once.
func TestCountsParsed(t *testing.T) {
	ahead := mustPack(t, api.Deed{Kind: finish})
	ahead = ahead[:len(ahead)-1]
	reply := mustPackReply(t, api.Reply{})
	shards, ids := reply[:len(reply)-2], reply[:len(reply)-1]
	for n := range 256 {
		count := []byte{byte(n)}
		digests := bytes.Repeat([]byte{7}, 32*n)
		all := bytes.Repeat([]byte("\x01a"), n)
		if n > 32 {
			wantNoParse(t, slices.Concat(ahead, count), errLong)
			wantNoParse(t, slices.Concat(ahead, count, digests), errLong)
			wantNoReply(t, slices.Concat(shards, count), errLong)
			wantNoReply(t, slices.Concat(shards, count, digests, []byte{0}), errLong)
			wantNoReply(t, slices.Concat(ids, count), errLong)
			wantNoReply(t, slices.Concat(ids, count, all), errLong)
			continue
		}
		m := api.Manifest{Shards: slices.Repeat([]api.Digest{api.Digest(bytes.Repeat([]byte{7}, 32))}, n)}
		wantParse(t, slices.Concat(ahead, count, digests), api.Deed{Kind: finish, M: m}, ok)
		wantParseReply(t, slices.Concat(shards, count, digests, []byte{0}), api.Reply{Paper: api.Paper{M: m}}, ok)
		wantParseReply(t, slices.Concat(ids, count, all), api.Reply{Ids: slices.Repeat([]string{"a"}, n)}, ok)
	}
}

// TestLiveParsed: the byte for Live is 0 or 1, and is looked at ahead of what stands behind it.
func TestLiveParsed(t *testing.T) {
	b := mustPackReply(t, api.Reply{Paper: api.Paper{Id: "ab"}})
	const at = 2 + 3 + 8
	for live := range 256 {
		b[at] = byte(live)
		if live < 2 {
			wantParseReply(t, b, api.Reply{Paper: api.Paper{Id: "ab", Live: live == 1}}, ok)
			wantNoReply(t, b[:at+1], errShort)
			continue
		}
		wantNoReply(t, b, errArg)
		wantNoReply(t, b[:at+1], errArg)
		wantNoReply(t, append(bytes.Clone(b), 0), errArg)
		b[len(b)-1] = 33
		wantNoReply(t, b, errArg)
		b[2] = 33
		wantNoReply(t, b, errId)
		b[2], b[len(b)-1] = 2, 0
	}
}

// TestEachByteChanged: whatever byte of what was packed is made another one, or is left out.
func TestEachByteChanged(t *testing.T) {
	changed := func(b []byte, want func(testing.TB, []byte)) {
		for at := range b {
			was := b[at]
			for _, c := range []byte{0, 1, 2, 5, 32, 33, 'A', 'z', '-', was + 1, was ^ 128, 255} {
				b[at] = c
				want(t, b)
			}
			b[at] = was
			want(t, slices.Delete(bytes.Clone(b), at, at+1))
			want(t, slices.Insert(bytes.Clone(b), at, 0))
			want(t, slices.Insert(bytes.Clone(b), at, 'a'))
		}
	}
	for _, d := range deeds() {
		changed(mustPack(t, d), wantRead)
	}
	for _, r := range replies() {
		changed(mustPackReply(t, r), wantReadReply)
	}
}

// TestAllShortBytes: all bytes up to two, and those of a small alphabet up to five.
func TestAllShortBytes(t *testing.T) {
	wantRead(t, nil)
	wantReadReply(t, nil)
	for a := range 256 {
		wantRead(t, []byte{byte(a)})
		wantReadReply(t, []byte{byte(a)})
		for b := range 256 {
			wantRead(t, []byte{byte(a), byte(b)})
			wantReadReply(t, []byte{byte(a), byte(b)})
		}
	}
	few := []byte{0, 1, 2, 3, 4, 5, 6, 33, 'a', 'A'}
	for n := range 100000 {
		b := make([]byte, 5)
		for i := range b {
			b[i] = few[n%10]
			n /= 10
		}
		for end := 3; end <= 5; end++ {
			wantRead(t, b[:end])
			wantReadReply(t, b[:end])
		}
	}
}

func diceName(dice *rand.Rand) string {
	switch dice.IntN(12) {
	case 0:
		return pick(dice, names())
	case 1:
		return ""
	}
	b := make([]byte, 1+dice.IntN(32))
	for i := range b {
		b[i] = letters[dice.IntN(len(letters))]
	}
	return string(b)
}

func diceManifest(dice *rand.Rand) api.Manifest {
	m := api.Manifest{Size: dice.Uint32(), Stripes: uint16(dice.Uint32())}
	for i := range m.Whole {
		m.Whole[i] = byte(dice.Uint32())
	}
	for range pick(dice, []int{0, 1, 3, 5, 15, 32, dice.IntN(33), dice.IntN(40)}) {
		m.Shards = append(m.Shards, digestOf(dice.IntN(256)))
	}
	return m
}

func diceDeed(dice *rand.Rand) api.Deed {
	d := api.Deed{Kind: uint8(1 + dice.IntN(5))}
	has := parts[d.Kind]
	if strings.Contains(has, "i") {
		d.Id = diceName(dice)
	}
	if strings.Contains(has, "k") {
		d.Key = dice.Uint64()
	}
	if strings.Contains(has, "m") {
		d.M = diceManifest(dice)
	}
	switch dice.IntN(12) {
	case 0:
		d.Kind = uint8(dice.IntN(256))
	case 1:
		d.Id = diceName(dice)
	case 2:
		d.Key = uint64(dice.IntN(2))
	case 3:
		d.M = diceManifest(dice)
	}
	return d
}

func diceReply(dice *rand.Rand) api.Reply {
	r := api.Reply{Code: api.Errno(dice.IntN(65536)), Paper: api.Paper{Key: dice.Uint64(), Live: dice.IntN(2) == 0, M: diceManifest(dice)}}
	if dice.IntN(2) == 0 {
		r.Paper.Id = diceName(dice)
	}
	for range pick(dice, []int{0, 1, 2, 5, 32, dice.IntN(34)}) {
		r.Ids = append(r.Ids, string(letters[dice.IntN(len(letters))]))
	}
	switch dice.IntN(12) {
	case 0:
		r.Code = api.Errno(int(dice.Uint64()))
	case 1:
		r.Ids = append(r.Ids, diceName(dice))
	}
	return r
}

func TestByDice(t *testing.T) {
	dice := newDice()
	for range 20000 {
		wantPacked(t, diceDeed(dice))
		wantPackedReply(t, diceReply(dice))
	}
	for range 20000 {
		b, reply := laid(diceDeed(dice)), laidReply(diceReply(dice))
		for range dice.IntN(3) {
			b[dice.IntN(len(b))] = byte(dice.IntN(256))
			reply[dice.IntN(len(reply))] = byte(dice.IntN(256))
		}
		wantRead(t, b)
		wantReadReply(t, reply)
		wantRead(t, b[:dice.IntN(len(b)+1)])
		wantReadReply(t, reply[:dice.IntN(len(reply)+1)])
		wantRead(t, reply)
		wantReadReply(t, b)
	}
}

// withRoom lays a list into a greater one, so that what stands behind its end can be looked at.
func withRoom[T any](l []T, room int, fill T) (in, all []T) {
	all = slices.Concat(l, slices.Repeat([]T{fill}, room))
	return all[:len(l)], all
}

// TestArgumentsStay: R3, what is handed in is neither changed nor kept.
func TestArgumentsStay(t *testing.T) {
	for _, r := range replies() {
		shards, allShards := withRoom(r.Paper.M.Shards, 40, digestOf(77))
		ids, allIds := withRoom(r.Ids, 40, "spare")
		r.Paper.M.Shards, r.Ids = shards, ids
		wasShards, wasIds := slices.Clone(allShards), slices.Clone(allIds)
		d := api.Deed{Kind: finish, Key: 3, M: r.Paper.M}
		b, raw := mustPackReply(t, r), mustPack(t, d)
		wantCheck(t, d, ok)
		if !slices.Equal(allShards, wasShards) || !slices.Equal(allIds, wasIds) {
			t.Errorf("%s: changed", short(r))
		}
		wantB, wantRaw := bytes.Clone(b), bytes.Clone(raw)
		for i := range allShards {
			allShards[i] = digestOf(99)
		}
		for i := range allIds {
			allIds[i] = "other"
		}
		if !bytes.Equal(b, wantB) || !bytes.Equal(raw, wantRaw) {
			t.Errorf("%s: kept", short(r))
		}
	}
	for _, r := range replies() {
		b, all := withRoom(laidReply(r), 64, 9)
		was := bytes.Clone(all)
		got, _ := deed.ParseReply(b)
		wantRaw, rawAll := withRoom(laid(api.Deed{Kind: finish, M: r.Paper.M}), 64, 9)
		wasRaw := bytes.Clone(rawAll)
		d, _ := deed.Parse(wantRaw)
		deed.Parse(b)
		deed.ParseReply(wantRaw)
		if !bytes.Equal(all, was) || !bytes.Equal(rawAll, wasRaw) {
			t.Errorf("%s: changed", short(r))
		}
		clear(all)
		clear(rawAll)
		if !sameReply(got, r) || !sameManifest(d.M, r.Paper.M) {
			t.Errorf("%s: kept: %s %s", short(r), short(got), short(d))
		}
	}
}

// fill writes over all that a list has, its spare room too.
func fill[T any](l []T, with T) {
	l = l[:cap(l)]
	for i := range l {
		l[i] = with
	}
}

// TestAnswersAreNew: R3, what is handed out shares nothing with another answer.
func TestAnswersAreNew(t *testing.T) {
	for _, d := range deeds() {
		b := mustPack(t, d)
		fill(mustPack(t, d), 255)
		if !bytes.Equal(b, laid(d)) || !bytes.Equal(mustPack(t, d), laid(d)) {
			t.Errorf("%s: bytes shared", short(d))
		}
		got, _ := deed.Parse(b)
		other, _ := deed.Parse(b)
		fill(other.M.Shards, digestOf(255))
		if !same(got, d) || !bytes.Equal(b, laid(d)) {
			t.Errorf("%s: shards shared", short(d))
		}
		wantParse(t, b, d, ok)
	}
	for _, r := range replies() {
		b := mustPackReply(t, r)
		fill(mustPackReply(t, r), 255)
		if !bytes.Equal(b, laidReply(r)) || !bytes.Equal(mustPackReply(t, r), laidReply(r)) {
			t.Errorf("%s: bytes shared", short(r))
		}
		got, _ := deed.ParseReply(b)
		other, _ := deed.ParseReply(b)
		fill(other.Paper.M.Shards, digestOf(255))
		fill(other.Ids, "other")
		if !sameReply(got, r) || !bytes.Equal(b, laidReply(r)) {
			t.Errorf("%s: lists shared", short(r))
		}
		wantParseReply(t, b, r, ok)
	}
}

func FuzzDeed(f *testing.F) {
	for _, d := range deeds() {
		f.Add(laid(d))
	}
	for _, r := range replies() {
		f.Add(laidReply(r))
	}
	f.Fuzz(func(t *testing.T, b []byte) {
		wantRead(t, b)
		wantReadReply(t, b)
		wantPacked(t, api.Deed{Kind: find, Id: string(b)})
		wantPackedReply(t, api.Reply{Paper: api.Paper{Id: string(b)}, Ids: strings.Split(string(b), "/")})
	})
}
