package wire_test

import (
	"bytes"
	"encoding/binary"
	"encoding/hex"
	"fmt"
	"math"
	"math/rand/v2"
	"reflect"
	"slices"
	"strings"
	"testing"

	"tabulary/api"
	"tabulary/wire"
)

// The errors' numbers, as the chapter tells them.
const (
	errArg   api.Errno = 1
	errLong  api.Errno = 2
	errShape api.Errno = 6
	errShort api.Errno = 201
)

func newDice() *rand.Rand { return rand.New(rand.NewPCG(18, 19)) }

func pick[T any](dice *rand.Rand, from []T) T { return from[dice.IntN(len(from))] }

func of(b byte, count int) []byte { return bytes.Repeat([]byte{b}, count) }

// The fields by their names in api.Message, in the order of the section 'As bytes'.
var order = []string{"View", "Normal", "Op", "Commit", "Log", "Client", "Seq", "Body", "Key", "Shard", "Stripe", "Code", "Blocks"}

// table is the chapter's.
var table = map[uint8][]string{
	1:  {"View", "Op", "Commit", "Log"},
	2:  {"View", "Op"},
	3:  {"View"},
	4:  {"View", "Normal", "Commit", "Log"},
	5:  {"View", "Commit", "Log"},
	6:  {"View"},
	7:  {"Client", "Seq", "Body"},
	8:  {"Client", "Seq", "Body"},
	9:  {"Key", "Shard", "Blocks"},
	10: {"Key", "Shard", "Code"},
	11: {"Key"},
	12: {"Key", "Shard", "Code", "Blocks"},
	13: {"Key", "Stripe", "Blocks"},
	14: {"Key", "Stripe", "Code"},
}

const types = 14

// typesWith are the types that have a field.
func typesWith(field string) []uint8 {
	var l []uint8
	for kind := uint8(1); kind <= types; kind++ {
		if slices.Contains(table[kind], field) {
			l = append(l, kind)
		}
	}
	return l
}

// isZero tells whether a field is zero, or an empty list.
func isZero(m api.Message, field string) bool {
	v := reflect.ValueOf(m).FieldByName(field)
	if v.Kind() == reflect.Slice {
		return v.Len() == 0
	}
	return v.IsZero()
}

// checked is P18.1.
func checked(m api.Message) api.Errno {
	has, is := table[m.Type]
	if !is {
		return errArg
	}
	for _, field := range order {
		if !slices.Contains(has, field) && !isZero(m, field) {
			return errShape
		}
	}
	if m.Op < 0 || m.Op > 64 || m.Commit < 0 || m.Commit > 64 || m.Code < 0 || m.Code > 65535 {
		return errArg
	}
	if len(m.Log) > 64 || len(m.Body) > 2048 || len(m.Blocks) > 4096 {
		return errLong
	}
	for _, e := range m.Log {
		if len(e.Body) > 2048 {
			return errLong
		}
	}
	for _, b := range m.Blocks {
		if len(b) != 128 {
			return errShape
		}
	}
	return api.OK
}

func laidBody(b, body []byte) []byte {
	return append(binary.BigEndian.AppendUint16(b, uint16(len(body))), body...)
}

// laid is the section 'As bytes'.
func laid(m api.Message) []byte {
	b := []byte{m.Type}
	for _, field := range order {
		if !slices.Contains(table[m.Type], field) {
			continue
		}
		switch field {
		case "View":
			b = binary.BigEndian.AppendUint64(b, m.View)
		case "Normal":
			b = binary.BigEndian.AppendUint64(b, m.Normal)
		case "Op":
			b = append(b, byte(m.Op))
		case "Commit":
			b = append(b, byte(m.Commit))
		case "Log":
			b = append(b, byte(len(m.Log)))
			for _, e := range m.Log {
				b = binary.BigEndian.AppendUint64(b, e.Client)
				b = binary.BigEndian.AppendUint64(b, e.Seq)
				b = laidBody(b, e.Body)
			}
		case "Client":
			b = binary.BigEndian.AppendUint64(b, m.Client)
		case "Seq":
			b = binary.BigEndian.AppendUint64(b, m.Seq)
		case "Body":
			b = laidBody(b, m.Body)
		case "Key":
			b = binary.BigEndian.AppendUint64(b, m.Key)
		case "Shard":
			b = append(b, m.Shard)
		case "Stripe":
			b = binary.BigEndian.AppendUint32(b, m.Stripe)
		case "Code":
			b = binary.BigEndian.AppendUint16(b, uint16(m.Code))
		case "Blocks":
			b = binary.BigEndian.AppendUint16(b, uint16(len(m.Blocks)))
			b = append(b, bytes.Join(m.Blocks, nil)...)
		}
	}
	return b
}

// input is what is still to be read, and the first error that was met.
type input struct {
	b   []byte
	err api.Errno
}

// take answers bytes, and noughts as soon as there is an error.
func (in *input) take(size int) []byte {
	if in.err == api.OK && len(in.b) < size {
		in.err = errShort
	}
	if in.err != api.OK {
		return make([]byte, size)
	}
	taken := in.b[:size]
	in.b = in.b[size:]
	return bytes.Clone(taken)
}

func (in *input) number(most int, past api.Errno, raw []byte) int {
	n := 0
	for _, c := range raw {
		n = 256*n + int(c)
	}
	if in.err == api.OK && n > most {
		in.err = past
	}
	if in.err != api.OK {
		return 0
	}
	return n
}

func (in *input) body() []byte { return in.take(in.number(2048, errLong, in.take(2))) }

// read is P18.3.
func read(b []byte) (api.Message, api.Errno) {
	in := &input{b: b}
	m := api.Message{Type: in.take(1)[0]}
	if _, is := table[m.Type]; in.err == api.OK && !is {
		in.err = errArg
	}
	for _, field := range order {
		if slices.Contains(table[m.Type], field) {
			in.field(&m, field)
		}
	}
	if in.err == api.OK && len(in.b) > 0 {
		in.err = errShape
	}
	if in.err != api.OK {
		return api.Message{}, in.err
	}
	return m, api.OK
}

func (in *input) field(m *api.Message, field string) {
	switch field {
	case "View":
		m.View = binary.BigEndian.Uint64(in.take(8))
	case "Normal":
		m.Normal = binary.BigEndian.Uint64(in.take(8))
	case "Op":
		m.Op = in.number(64, errArg, in.take(1))
	case "Commit":
		m.Commit = in.number(64, errArg, in.take(1))
	case "Log":
		for range in.number(64, errLong, in.take(1)) {
			client, seq := in.take(8), in.take(8)
			m.Log = append(m.Log, api.Entry{Client: binary.BigEndian.Uint64(client), Seq: binary.BigEndian.Uint64(seq), Body: in.body()})
		}
	case "Client":
		m.Client = binary.BigEndian.Uint64(in.take(8))
	case "Seq":
		m.Seq = binary.BigEndian.Uint64(in.take(8))
	case "Body":
		m.Body = in.body()
	case "Key":
		m.Key = binary.BigEndian.Uint64(in.take(8))
	case "Shard":
		m.Shard = in.take(1)[0]
	case "Stripe":
		m.Stripe = binary.BigEndian.Uint32(in.take(4))
	case "Code":
		m.Code = api.Errno(binary.BigEndian.Uint16(in.take(2)))
	case "Blocks":
		for range in.number(4096, errLong, in.take(2)) {
			m.Blocks = append(m.Blocks, in.take(128))
		}
	}
}

// same tells whether two messages are one, where an empty list is nil or empty.
func same(a, b api.Message) bool {
	sameEntry := func(x, y api.Entry) bool {
		return x.Client == y.Client && x.Seq == y.Seq && bytes.Equal(x.Body, y.Body)
	}
	return a.Type == b.Type && a.View == b.View && a.Normal == b.Normal && a.Op == b.Op && a.Commit == b.Commit &&
		slices.EqualFunc(a.Log, b.Log, sameEntry) && a.Client == b.Client && a.Seq == b.Seq && bytes.Equal(a.Body, b.Body) &&
		a.Key == b.Key && a.Shard == b.Shard && a.Stripe == b.Stripe && a.Code == b.Code && slices.EqualFunc(a.Blocks, b.Blocks, bytes.Equal)
}

// short tells a message, or bytes, as far as they can be read on a line.
func short(a any) string {
	s := fmt.Sprintf("%v", a)
	if b, is := a.([]byte); is {
		s = hex.EncodeToString(b)
	}
	if len(s) > 300 {
		return s[:300] + fmt.Sprintf(".. (%d)", len(s))
	}
	return s
}

// wantCheck holds Check and Pack of a message against an error.
func wantCheck(tb testing.TB, m api.Message, want api.Errno) {
	tb.Helper()
	if got := wire.Check(m); got != want {
		tb.Errorf("Check(%s): %d, not %d", short(m), got, want)
	}
	b, got := wire.Pack(m)
	if got != want {
		tb.Errorf("Pack(%s): %d, not %d", short(m), got, want)
	}
	if want != api.OK && b != nil {
		tb.Errorf("Pack(%s): bytes beside error %d", short(m), got)
	}
}

// wantParse holds Parse against a message, or an error.
func wantParse(tb testing.TB, b []byte, want api.Message, wantErr api.Errno) {
	tb.Helper()
	m, err := wire.Parse(b)
	if err != wantErr {
		tb.Errorf("Parse(%s): %d, not %d", short(b), err, wantErr)
	} else if !same(m, want) || err != api.OK && !reflect.DeepEqual(m, api.Message{}) {
		tb.Errorf("Parse(%s): %s, not %s", short(b), short(m), short(want))
	}
}

func wantNoParse(tb testing.TB, b []byte, want api.Errno) {
	tb.Helper()
	wantParse(tb, b, api.Message{}, want)
}

// wantPacked holds all three calls against the chapter told over again, there and back.
func wantPacked(tb testing.TB, m api.Message) {
	tb.Helper()
	want := checked(m)
	wantCheck(tb, m, want)
	if want != api.OK {
		return
	}
	b, _ := wire.Pack(m)
	if !bytes.Equal(b, laid(m)) {
		tb.Errorf("Pack(%s): %s, not %s", short(m), short(b), short(laid(m)))
	}
	wantParse(tb, b, m, api.OK)
}

// wantRead holds Parse against the chapter told over again, and what it answers there and back.
func wantRead(tb testing.TB, b []byte) {
	tb.Helper()
	m, err := read(b)
	wantParse(tb, b, m, err)
	if err != api.OK {
		return
	}
	got, _ := wire.Parse(b)
	if again, err := wire.Pack(got); err != api.OK || !bytes.Equal(again, b) {
		tb.Errorf("Pack of Parse(%s): %s, %d", short(b), short(again), err)
	}
	if err := wire.Check(got); err != api.OK {
		tb.Errorf("Check of Parse(%s): %d", short(b), err)
	}
}

func mustPack(tb testing.TB, m api.Message) []byte {
	tb.Helper()
	b, err := wire.Pack(m)
	if err != api.OK {
		tb.Fatalf("Pack(%s): %d", short(m), err)
	}
	return b
}

func fromHex(tb testing.TB, text string) []byte {
	tb.Helper()
	b, err := hex.DecodeString(strings.ReplaceAll(text, " ", ""))
	if err != nil {
		tb.Fatal(err)
	}
	return b
}

// noughts are so many bytes 00 to the base 16.
func noughts(count int) string { return strings.Repeat("00", count) }

func TestExamples(t *testing.T) {
	packed := func(m api.Message, want string) {
		t.Helper()
		if b, err := wire.Pack(m); err != api.OK || !bytes.Equal(b, fromHex(t, want)) {
			t.Errorf("Pack(%s): %x %d", short(m), b, err)
		}
		wantCheck(t, m, api.OK)
		wantParse(t, fromHex(t, want), m, api.OK)
	}
	packed(api.Message{Type: api.Change, View: 3}, "03"+noughts(7)+"03")
	packed(api.Message{Type: api.Prepared, Op: 2}, "02"+noughts(8)+"02")
	wantCheck(t, api.Message{Type: api.Change, Op: 1}, errShape)
	wantCheck(t, api.Message{Type: 15}, errArg)
	wantCheck(t, api.Message{Type: api.Prepared, Op: 65}, errArg)
	packed(api.Message{Type: api.Mended, Key: 1, Stripe: 2, Code: 3}, "0E"+noughts(7)+"01 00 00 00 02 00 03")
	wantNoParse(t, nil, errShort)
	wantNoParse(t, []byte{}, errShort)
	wantNoParse(t, fromHex(t, "00"), errArg)
	wantNoParse(t, fromHex(t, "06"+noughts(8)+"00"), errShape)
}

// TestEachTypeAsBytes has the bytes of a message of each type written out.
func TestEachTypeAsBytes(t *testing.T) {
	const view, normal = "0102030405060708", "1112131415161718"
	const client, seq, key = "2122232425262728", "3132333435363738", "4142434445464748"
	log := []api.Entry{
		{Client: 0x2122232425262728, Seq: 0x3132333435363738, Body: []byte{0xb1, 0xb2, 0xb3}},
		{Client: 5},
	}
	const logBytes = "02" + client + seq + "0003 b1b2b3" + "0000000000000005" + "0000000000000000" + "0000"
	blocks := [][]byte{of(0xc1, 128), of(0xc2, 128)}
	blockBytes := "0002" + strings.Repeat("c1", 128) + strings.Repeat("c2", 128)
	m := api.Message{
		View: 0x0102030405060708, Normal: 0x1112131415161718, Op: 0x1a, Commit: 0x2b, Log: log,
		Client: 0x2122232425262728, Seq: 0x3132333435363738, Body: []byte{0xb4, 0xb5},
		Key: 0x4142434445464748, Shard: 0x51, Stripe: 0x61626364, Code: 0x7172, Blocks: blocks,
	}
	const bodyBytes = "0002 b4b5"
	for kind, want := range map[uint8]string{
		api.Prepare:  "01" + view + "1a" + "2b" + logBytes,
		api.Prepared: "02" + view + "1a",
		api.Change:   "03" + view,
		api.Vote:     "04" + view + normal + "2b" + logBytes,
		api.Lead:     "05" + view + "2b" + logBytes,
		api.Ask:      "06" + view,
		api.Request:  "07" + client + seq + bodyBytes,
		api.Answer:   "08" + client + seq + bodyBytes,
		api.Put:      "09" + key + "51" + blockBytes,
		api.Kept:     "0a" + key + "51" + "7172",
		api.Get:      "0b" + key,
		api.Have:     "0c" + key + "51" + "7172" + blockBytes,
		api.Mend:     "0d" + key + "61626364" + blockBytes,
		api.Mended:   "0e" + key + "61626364" + "7172",
	} {
		m := cleared(m, kind)
		if b := mustPack(t, m); !bytes.Equal(b, fromHex(t, want)) {
			t.Errorf("type %d: %s, not %s", kind, short(b), want)
		}
		wantPacked(t, m)
		wantRead(t, fromHex(t, want))
	}
}

// cleared is a message of a type, without the fields that the type has not.
func cleared(m api.Message, kind uint8) api.Message {
	m.Type = kind
	v := reflect.ValueOf(&m).Elem()
	for _, field := range order {
		if !slices.Contains(table[kind], field) {
			v.FieldByName(field).SetZero()
		}
	}
	return m
}

// TestFieldsAreTold: no field of a message is forgotten by this test.
func TestFieldsAreTold(t *testing.T) {
	var names []string
	for _, f := range reflect.VisibleFields(reflect.TypeOf(api.Message{})) {
		names = append(names, f.Name)
	}
	if want := append([]string{"Type"}, order...); !slices.Equal(names, want) {
		t.Errorf("%v, not %v", names, want)
	}
	if api.Prepare != 1 || api.Mended != types || len(table) != types {
		t.Error("other types")
	}
}

// notZero are values that a field may be given which are not zero.
func notZero(field string) []any {
	switch field {
	case "View", "Normal", "Client", "Seq", "Key":
		return []any{uint64(1), uint64(256), uint64(1) << 32, uint64(1) << 63, uint64(math.MaxUint64)}
	case "Op", "Commit":
		return []any{1, -1, 64, 65, 256, 1 << 32, math.MaxInt, math.MinInt}
	case "Log":
		return []any{[]api.Entry{{}}, make([]api.Entry, 65), []api.Entry{{Body: of(1, 2049)}}}
	case "Body":
		return []any{[]byte{0}, of(1, 2049)}
	case "Shard":
		return []any{uint8(1), uint8(128), uint8(255)}
	case "Stripe":
		return []any{uint32(1), uint32(1) << 8, uint32(1) << 31, uint32(math.MaxUint32)}
	case "Code":
		return []any{api.Errno(1), api.Errno(-1), api.Errno(65535), api.Errno(65536), api.Errno(math.MinInt)}
	}
	return []any{make([][]byte, 1), [][]byte{of(1, 128)}, make([][]byte, 4097)}
}

func withField(m api.Message, field string, value any) api.Message {
	reflect.ValueOf(&m).Elem().FieldByName(field).Set(reflect.ValueOf(value))
	return m
}

// TestTypesThatAreNone: the type comes ahead of all else.
func TestTypesThatAreNone(t *testing.T) {
	for kind := range 256 {
		_, is := table[uint8(kind)]
		m := api.Message{Type: uint8(kind)}
		if is {
			wantCheck(t, m, api.OK)
			wantNoParse(t, []byte{uint8(kind)}, errShort)
			continue
		}
		wantCheck(t, m, errArg)
		for _, behind := range []int{0, 1, 8, 9, 200} {
			wantNoParse(t, append([]byte{uint8(kind)}, make([]byte, behind)...), errArg)
		}
		for _, field := range order {
			for _, value := range notZero(field) {
				wantCheck(t, withField(m, field, value), errArg)
			}
		}
	}
}

// TestFieldsThatATypeHasNot: each is to be zero, or an empty list.
func TestFieldsThatATypeHasNot(t *testing.T) {
	for kind := uint8(1); kind <= types; kind++ {
		for _, field := range order {
			if slices.Contains(table[kind], field) {
				continue
			}
			for _, value := range notZero(field) {
				wantCheck(t, withField(api.Message{Type: kind}, field, value), errShape)
			}
		}
		empty := api.Message{Type: kind, Log: []api.Entry{}, Body: []byte{}, Blocks: [][]byte{}}
		wantPacked(t, empty)
		if b := mustPack(t, empty); !bytes.Equal(b, mustPack(t, api.Message{Type: kind})) {
			t.Errorf("type %d: empty lists are other than nil ones", kind)
		}
	}
}

// TestFieldsThatATypeHas: each value of them is taken, or is the error that P18.1 tells.
func TestFieldsThatATypeHas(t *testing.T) {
	for kind := uint8(1); kind <= types; kind++ {
		for _, field := range table[kind] {
			for _, value := range notZero(field) {
				wantPacked(t, withField(api.Message{Type: kind}, field, value))
			}
		}
	}
}

// TestPlaces: Op and Commit are from 0 to 64, and are not cut down to a byte ahead of that.
func TestPlaces(t *testing.T) {
	for _, field := range []string{"Op", "Commit"} {
		for _, kind := range typesWith(field) {
			m := api.Message{Type: kind, View: 7}
			for n := -300; n <= 600; n++ {
				want := api.OK
				if n < 0 || n > 64 {
					want = errArg
				}
				wantCheck(t, withField(m, field, n), want)
				if want == api.OK {
					wantPacked(t, withField(m, field, n))
				}
			}
			for _, n := range []int{1 << 8, 1<<8 + 1, 1 << 16, 1 << 32, 1<<32 + 64, math.MaxInt, math.MinInt, math.MinInt + 1} {
				wantCheck(t, withField(m, field, n), errArg)
			}
		}
	}
}

// TestCodes: a Code is from 0 to 65535.
func TestCodes(t *testing.T) {
	for _, kind := range typesWith("Code") {
		m := api.Message{Type: kind, Key: 9}
		for n := api.Errno(0); n <= 65535; n++ {
			m.Code = n
			if n%251 == 0 || n < 400 || n > 65000 {
				wantPacked(t, m)
			}
		}
		for _, n := range []api.Errno{-1, -2, -65535, -65536, 65536, 65537, 1 << 17, 1 << 32, 1<<32 + 5, math.MaxInt, math.MinInt} {
			m.Code = n
			wantCheck(t, m, errArg)
		}
	}
}

// TestNumbers: each bit of each number has a place of its own.
func TestNumbers(t *testing.T) {
	for kind := uint8(1); kind <= types; kind++ {
		for bit := range 64 {
			n := uint64(1) << bit
			m := cleared(api.Message{View: n, Normal: ^n, Client: n, Seq: ^n, Key: n, Shard: uint8(n), Stripe: uint32(n), Code: api.Errno(n & 65535), Log: []api.Entry{{Client: ^n, Seq: n}}}, kind)
			wantPacked(t, m)
		}
	}
}

// TestLogs: a log has up to 64 entries.
func TestLogs(t *testing.T) {
	for _, kind := range typesWith("Log") {
		for _, count := range []int{0, 1, 2, 63, 64} {
			var log []api.Entry
			for i := range count {
				log = append(log, api.Entry{Client: uint64(i), Seq: uint64(count), Body: of(byte(i), i)})
			}
			wantPacked(t, api.Message{Type: kind, Log: log})
		}
		for _, count := range []int{65, 66, 255, 256, 257, 320, 65536, 65537} {
			wantCheck(t, api.Message{Type: kind, Log: make([]api.Entry, count)}, errLong)
		}
	}
}

// TestBodies: an entry's body and a message's have up to 2048 bytes.
func TestBodies(t *testing.T) {
	for _, length := range []int{0, 1, 2, 255, 256, 257, 2047, 2048, 2049, 2050, 4096, 65535, 65536, 65537, 65536 + 2048, 1 << 17} {
		want := api.OK
		if length > 2048 {
			want = errLong
		}
		body := of(0xab, length)
		for _, kind := range typesWith("Body") {
			m := api.Message{Type: kind, Client: 1, Seq: 2, Body: body}
			wantCheck(t, m, want)
			wantPacked(t, m)
		}
		for _, kind := range typesWith("Log") {
			for at := range 3 {
				log := make([]api.Entry, 3)
				log[at].Body = body
				m := api.Message{Type: kind, Log: log}
				wantCheck(t, m, want)
				wantPacked(t, m)
			}
		}
	}
}

// TestBlocks: there are up to 4096, of 128 bytes each, whatever these are.
func TestBlocks(t *testing.T) {
	for _, kind := range typesWith("Blocks") {
		for _, count := range []int{0, 1, 2, 255, 256, 257, 4095, 4096, 4097, 4098, 8192, 65535, 65536, 65537} {
			blocks := make([][]byte, count)
			for i := range blocks {
				blocks[i] = of(byte(i+i/256), 128)
			}
			m := api.Message{Type: kind, Key: 3, Blocks: blocks}
			if count > 4096 {
				wantCheck(t, m, errLong)
			} else {
				wantPacked(t, m)
			}
		}
		for _, length := range []int{0, 1, 96, 127, 129, 256, 65536 + 128} {
			for at := range 3 {
				blocks := [][]byte{of(1, 128), of(2, 128), of(3, 128)}
				blocks[at] = of(4, length)
				wantCheck(t, api.Message{Type: kind, Blocks: blocks}, errShape)
			}
		}
		wantCheck(t, api.Message{Type: kind, Blocks: [][]byte{nil}}, errShape)
		wantCheck(t, api.Message{Type: kind, Blocks: [][]byte{of(1, 127), of(1, 129)}}, errShape)
		last := slices.Repeat([][]byte{of(1, 128)}, 4096)
		last[4095] = of(1, 129)
		wantCheck(t, api.Message{Type: kind, Blocks: last}, errShape)
	}
}

// TestCheckErrorsInOrder lays two wrong things of different errors into one message.
func TestCheckErrorsInOrder(t *testing.T) {
	wrong := []struct {
		field string
		value any
	}{
		{"Op", 65}, {"Op", -1}, {"Commit", 65}, {"Commit", -1}, {"Code", api.Errno(-1)}, {"Code", api.Errno(65536)},
		{"Log", make([]api.Entry, 65)}, {"Log", []api.Entry{{Body: of(0, 2049)}}}, {"Body", of(0, 2049)},
		{"Blocks", make([][]byte, 4097)}, {"Blocks", [][]byte{of(1, 129)}}, {"View", uint64(1)}, {"Shard", uint8(1)},
	}
	for kind := range uint8(types + 2) {
		for _, a := range wrong {
			for _, b := range wrong {
				m := withField(withField(api.Message{Type: kind}, a.field, a.value), b.field, b.value)
				wantCheck(t, m, checked(m))
			}
		}
	}
	blocks := append(slices.Repeat([][]byte{of(1, 5)}, 4096), nil)
	wantCheck(t, api.Message{Type: api.Put, Blocks: blocks}, errLong)
	wantCheck(t, api.Message{Type: api.Have, Code: -1, Blocks: blocks}, errArg)
	wantCheck(t, api.Message{Type: api.Have, Code: 65536, Blocks: blocks[:1]}, errArg)
	wantCheck(t, api.Message{Type: api.Have, Code: 65536, Blocks: blocks[:1], View: 1}, errShape)
	wantCheck(t, api.Message{Type: api.Prepare, Op: 3, Commit: 65, Log: make([]api.Entry, 65)}, errArg)
	wantCheck(t, api.Message{Type: api.Prepare, Op: 65, Log: make([]api.Entry, 65), Stripe: 1}, errShape)
	wantCheck(t, api.Message{Type: api.Request, Body: of(0, 2049), Code: 65536}, errShape)
	wantCheck(t, api.Message{Type: 0, Body: of(0, 2049), Code: 65536}, errArg)
}

// ofEachType is a message of each type with something in each of its fields.
func ofEachType() []api.Message {
	full := api.Message{
		View: 1<<56 + 2, Normal: 3 << 40, Op: 64, Commit: 33, Log: []api.Entry{{Client: 4, Seq: 5, Body: []byte("six")}, {}, {Client: 7, Seq: 1 << 63, Body: of(8, 300)}},
		Client: 9, Seq: 10, Body: of(11, 260), Key: 12, Shard: 13, Stripe: 1<<24 + 14, Code: 1<<8 + 15, Blocks: [][]byte{of(16, 128), of(17, 128), of(18, 128)},
	}
	var l []api.Message
	for kind := uint8(1); kind <= types; kind++ {
		l = append(l, cleared(full, kind))
	}
	return l
}

// TestCutShortAndMore: P18.4, of each beginning, and of something behind.
func TestCutShortAndMore(t *testing.T) {
	for _, m := range ofEachType() {
		b := mustPack(t, m)
		for end := range b {
			wantNoParse(t, b[:end], errShort)
			wantNoParse(t, slices.Clip(b[:end]), errShort)
		}
		for _, more := range [][]byte{{0}, {1}, {255}, of(0, 128), b} {
			wantNoParse(t, slices.Concat(b, more), errShape)
		}
		wantParse(t, b, m, api.OK)
	}
}

// TestParsePlaces: Op and Commit above 64 are met before anything behind them is wanted.
func TestParsePlaces(t *testing.T) {
	view := of(0, 8)
	for n := range 256 {
		place := byte(n)
		want := errShort
		if n > 64 {
			want = errArg
		}
		wantNoParse(t, slices.Concat([]byte{1}, view, []byte{place}), want)
		wantNoParse(t, slices.Concat([]byte{1}, view, []byte{0, place}), want)
		wantNoParse(t, slices.Concat([]byte{4}, view, view, []byte{place}), want)
		wantNoParse(t, slices.Concat([]byte{5}, view, []byte{place}), want)
		prepared := slices.Concat([]byte{2}, view, []byte{place})
		if n > 64 {
			wantNoParse(t, prepared, errArg)
			wantNoParse(t, append(prepared, 0), errArg)
		} else {
			wantParse(t, prepared, api.Message{Type: 2, Op: n}, api.OK)
			wantNoParse(t, append(prepared, 0), errShape)
		}
	}
	wantNoParse(t, slices.Concat([]byte{1}, view, []byte{65, 65, 65}), errArg)
	wantNoParse(t, slices.Concat([]byte{1}, view, []byte{64, 64, 65}), errLong)
}

// TestParseCounts: a count above its bound is met before anything behind it is wanted.
func TestParseCounts(t *testing.T) {
	ahead := of(0, 9)
	entry := of(0, 16)
	for n := range 256 {
		b := slices.Concat([]byte{5}, ahead, []byte{byte(n)})
		switch {
		case n == 0:
			wantParse(t, b, api.Message{Type: 5}, api.OK)
		case n <= 64:
			wantNoParse(t, b, errShort)
		default:
			wantNoParse(t, b, errLong)
		}
		wantRead(t, b)
		wantRead(t, append(b, make([]byte, 18*64)...))
	}
	for n := range 65536 {
		count := []byte{byte(n >> 8), byte(n)}
		want := api.OK
		if n > 2048 {
			want = errLong
		} else if n > 0 {
			want = errShort
		}
		for _, b := range [][]byte{
			slices.Concat([]byte{7}, entry, count), slices.Concat([]byte{8}, entry, count),
			slices.Concat([]byte{5}, ahead, []byte{1}, entry, count), slices.Concat([]byte{1, 0}, ahead, []byte{1}, entry, count),
		} {
			if _, err := wire.Parse(b); err != want {
				t.Fatalf("Parse(%x): %d, not %d", b, err, want)
			}
		}
		if 2048 < n && n <= 4096 {
			want = errShort
		}
		for _, b := range [][]byte{
			slices.Concat([]byte{9}, ahead, count), slices.Concat([]byte{12, 0, 0}, ahead, count), slices.Concat([]byte{13, 0, 0, 0}, ahead, count),
		} {
			if _, err := wire.Parse(b); err != want {
				t.Fatalf("Parse(%x): %d, not %d", b, err, want)
			}
		}
	}
}

// TestParseFirstError: of two errors the one further in front is answered.
func TestParseFirstError(t *testing.T) {
	view, entry := of(0, 8), of(0, 16)
	long := []byte{8, 1}
	for _, x := range []struct {
		b    []byte
		want api.Errno
	}{
		{slices.Concat([]byte{1}, view, []byte{65}), errArg},
		{slices.Concat([]byte{1}, view, []byte{0, 0, 65}, make([]byte, 5000)), errLong},
		{slices.Concat([]byte{1}, view, []byte{0, 0, 2}, entry, []byte{0, 0}, entry, long), errLong},
		{slices.Concat([]byte{1}, view, []byte{0, 0, 2}, entry, long, entry), errLong},
		{slices.Concat([]byte{1}, view, []byte{0, 0, 1}, entry, []byte{8}), errShort},
		{slices.Concat([]byte{1}, view, []byte{0, 0, 2}, entry, []byte{0, 1}), errShort},
		{slices.Concat([]byte{1}, view, []byte{0, 0, 2}, entry, []byte{0, 1, 9}, entry), errShort},
		{slices.Concat([]byte{7}, entry, []byte{0, 1, 9, 9}), errShape},
		{slices.Concat([]byte{7}, entry, long, make([]byte, 5000)), errLong},
		{slices.Concat([]byte{7}, entry, []byte{8, 0}, make([]byte, 2047)), errShort},
		{slices.Concat([]byte{7}, entry, []byte{8, 0}, make([]byte, 2049)), errShape},
		{slices.Concat([]byte{9}, view, []byte{0, 0x10, 0x01}, make([]byte, 128)), errLong},
		{slices.Concat([]byte{9}, view, []byte{0, 0x10, 0x00}, make([]byte, 128)), errShort},
		{slices.Concat([]byte{9}, view, []byte{0, 0, 2}, make([]byte, 255)), errShort},
		{slices.Concat([]byte{9}, view, []byte{0, 0, 2}, make([]byte, 257)), errShape},
		{[]byte{15}, errArg}, {[]byte{255, 0}, errArg}, {[]byte{0}, errArg}, {[]byte{1}, errShort},
	} {
		wantNoParse(t, x.b, x.want)
		wantRead(t, x.b)
	}
}

// TestParseAllShort reads all bytes of a few lengths out of those that say something.
func TestParseAllShort(t *testing.T) {
	ahead := map[uint8]int{1: 8, 2: 8, 3: 7, 4: 16, 5: 8, 6: 7, 7: 16, 8: 16, 9: 8, 10: 8, 11: 7, 12: 8, 13: 8, 14: 8}
	alphabet := []byte{0, 1, 2, 8, 16, 64, 65, 255}
	for kind := uint8(1); kind <= types; kind++ {
		start := append([]byte{kind}, make([]byte, ahead[kind])...)
		var grow func(b []byte, left int)
		grow = func(b []byte, left int) {
			wantRead(t, b)
			if left == 0 {
				return
			}
			for _, c := range alphabet {
				grow(append(slices.Clip(b), c), left-1)
			}
		}
		grow(start, 4)
	}
}

func anyBytes(dice *rand.Rand, length int) []byte {
	b := make([]byte, length)
	for i := range b {
		b[i] = byte(dice.Uint32())
	}
	return b
}

func anyNumber(dice *rand.Rand) uint64 { return dice.Uint64() >> dice.IntN(64) }

// anyLength is mostly a small one, or one near a bound.
func anyLength(dice *rand.Rand, bound int) int {
	return pick(dice, []int{0, 0, 1, 2, dice.IntN(20), bound - 1, bound, bound + 1})
}

func anyLog(dice *rand.Rand) []api.Entry {
	var log []api.Entry
	for range pick(dice, []int{0, 1, 2, dice.IntN(6), 64, 65}) {
		log = append(log, api.Entry{Client: anyNumber(dice), Seq: anyNumber(dice), Body: anyBytes(dice, dice.IntN(5))})
	}
	if len(log) > 0 && dice.IntN(2) == 0 {
		log[dice.IntN(len(log))].Body = anyBytes(dice, anyLength(dice, 2048))
	}
	return log
}

func anyBlocks(dice *rand.Rand) [][]byte {
	var blocks [][]byte
	for range pick(dice, []int{0, 1, 2, 3, dice.IntN(6)}) {
		blocks = append(blocks, anyBytes(dice, 128))
	}
	if len(blocks) > 0 && dice.IntN(5) == 0 {
		blocks[dice.IntN(len(blocks))] = anyBytes(dice, pick(dice, []int{0, 127, 129}))
	}
	return blocks
}

// anyMessage is often right, and often wrong in one thing or two.
func anyMessage(dice *rand.Rand) api.Message {
	place := func() int {
		return pick(dice, []int{0, 1, 63, 64, 65, -1, dice.IntN(65), dice.IntN(65), dice.IntN(65)})
	}
	m := api.Message{
		View: anyNumber(dice), Normal: anyNumber(dice), Op: place(), Commit: place(), Log: anyLog(dice),
		Client: anyNumber(dice), Seq: anyNumber(dice), Body: anyBytes(dice, anyLength(dice, 2048)),
		Key: anyNumber(dice), Shard: byte(anyNumber(dice)), Stripe: uint32(anyNumber(dice)),
		Code: api.Errno(pick(dice, []int{0, 1, 65535, 65536, -1, dice.IntN(400), dice.IntN(65536)})), Blocks: anyBlocks(dice),
	}
	kind := uint8(1 + dice.IntN(types))
	c := cleared(m, kind)
	if dice.IntN(10) == 0 {
		field := pick(dice, order)
		c = withField(c, field, reflect.ValueOf(m).FieldByName(field).Interface())
	}
	if dice.IntN(30) == 0 {
		c.Type = byte(dice.IntN(256))
	}
	return c
}

// TestAnyMessages holds all calls against the chapter told over again.
func TestAnyMessages(t *testing.T) {
	dice := newDice()
	right := 0
	for range 20000 {
		m := anyMessage(dice)
		wantPacked(t, m)
		if checked(m) == api.OK {
			right++
		}
	}
	if right < 5000 {
		t.Errorf("only %d messages were right", right)
	}
}

// changed is bytes with something done to them.
func changed(dice *rand.Rand, b []byte) []byte {
	b = bytes.Clone(b)
	for range 1 + dice.IntN(3) {
		at := dice.IntN(len(b) + 1)
		switch dice.IntN(5) {
		case 0:
			b = b[:at]
		case 1:
			b = slices.Insert(b, at, anyBytes(dice, 1+dice.IntN(3))...)
		case 2:
			if at < len(b) {
				b = slices.Delete(b, at, at+1)
			}
		default:
			if at < len(b) {
				b[at] = pick(dice, []byte{0, 1, 2, 8, 16, 64, 65, 255, byte(dice.Uint32())})
			}
		}
	}
	return b
}

// TestAnyBytes holds Parse against the chapter told over again, on bytes near those of messages, and on any.
func TestAnyBytes(t *testing.T) {
	dice := newDice()
	for range 20000 {
		m := anyMessage(dice)
		if checked(m) == api.OK {
			wantRead(t, changed(dice, laid(m)))
		}
		b := anyBytes(dice, dice.IntN(40))
		if len(b) > 0 {
			b[0] %= 16
		}
		wantRead(t, b)
	}
}

// TestEachByteChanged sets each byte of a message of each type to each of a few values.
func TestEachByteChanged(t *testing.T) {
	for _, m := range ofEachType() {
		b := mustPack(t, m)
		for at := range b {
			for _, c := range []byte{0, 1, 64, 65, 255, b[at] + 1, b[at] - 1, b[at] ^ 128} {
				x := bytes.Clone(b)
				x[at] = c
				wantRead(t, x)
			}
		}
	}
}

// greatest are the messages of the most bytes.
func greatest() []api.Message {
	most := api.Message{
		View: math.MaxUint64, Normal: math.MaxUint64, Op: 64, Commit: 64, Client: math.MaxUint64, Seq: math.MaxUint64,
		Body: of(255, 2048), Key: math.MaxUint64, Shard: 255, Stripe: math.MaxUint32, Code: 65535, Blocks: slices.Repeat([][]byte{of(255, 128)}, 4096),
	}
	for range 64 {
		most.Log = append(most.Log, api.Entry{Client: math.MaxUint64, Seq: math.MaxUint64, Body: of(255, 2048)})
	}
	var l []api.Message
	for kind := uint8(1); kind <= types; kind++ {
		l = append(l, cleared(most, kind))
	}
	return l
}

func TestGreatest(t *testing.T) {
	for _, m := range greatest() {
		wantPacked(t, m)
		b := mustPack(t, m)
		wantNoParse(t, b[:len(b)-1], errShort)
		wantNoParse(t, append(b, 0), errShape)
	}
	longest := mustPack(t, greatest()[api.Vote-1])
	if len(longest) != 1+8+8+1+1+64*(8+8+2+2048) {
		t.Errorf("the longest log has %d bytes", len(longest))
	}
	blocks := mustPack(t, greatest()[api.Have-1])
	if len(blocks) != 1+8+1+2+2+4096*128 {
		t.Errorf("the most blocks have %d bytes", len(blocks))
	}
}

// withRoom is a copy whose lists have spare room, all of which is 0x5a.
func withRoom(b []byte) []byte {
	room := of(0x5a, len(b)+40)
	copy(room, b)
	return room[:len(b)]
}

// roomy is a message each list of which has spare room.
func roomy(m api.Message) api.Message {
	m.Body = withRoom(m.Body)
	log := make([]api.Entry, len(m.Log)+2)
	for i, e := range m.Log {
		log[i] = api.Entry{Client: e.Client, Seq: e.Seq, Body: withRoom(e.Body)}
	}
	log[len(m.Log)] = api.Entry{Client: 77, Body: []byte("spare")}
	blocks := make([][]byte, len(m.Blocks)+2)
	for i, b := range m.Blocks {
		blocks[i] = withRoom(b)
	}
	blocks[len(m.Blocks)] = []byte("spare")
	m.Log, m.Blocks = log[:len(m.Log)], blocks[:len(m.Blocks)]
	return m
}

// allOf tells all that a message's lists hold, spare room too.
func allOf(m api.Message) string {
	room := func(b []byte) []byte { return b[:cap(b)] }
	s := fmt.Sprint(m.Type, m.View, m.Normal, m.Op, m.Commit, m.Client, m.Seq, room(m.Body), m.Key, m.Shard, m.Stripe, int(m.Code), len(m.Log), len(m.Blocks), len(m.Body))
	for _, e := range m.Log[:cap(m.Log)] {
		s += fmt.Sprint(e.Client, e.Seq, len(e.Body), room(e.Body))
	}
	for _, b := range m.Blocks[:cap(m.Blocks)] {
		s += fmt.Sprint(len(b), room(b))
	}
	return s
}

// scrawl writes over all of a list, spare room too.
func scrawl(b []byte) {
	b = b[:cap(b)]
	for i := range b {
		b[i] ^= 0xff
	}
}

// lists are all the lists of bytes in a message, those in spare room too.
func lists(m api.Message) [][]byte {
	l := [][]byte{m.Body}
	for _, e := range m.Log[:cap(m.Log)] {
		l = append(l, e.Body)
	}
	return append(l, m.Blocks[:cap(m.Blocks)]...)
}

func TestArgumentsStay(t *testing.T) {
	for _, m := range ofEachType() {
		for _, wrong := range []func(*api.Message){
			func(m *api.Message) {}, func(m *api.Message) { m.Type = 15 }, func(m *api.Message) { m.Type = m.Type%types + 1 },
			func(m *api.Message) { m.Op = 65 }, func(m *api.Message) { m.Code = 65536 }, func(m *api.Message) { m.Blocks = append(m.Blocks, []byte{1}) },
			func(m *api.Message) { m.Log = append(m.Log, api.Entry{Body: of(1, 2049)}) },
		} {
			m := roomy(m)
			wrong(&m)
			before := allOf(m)
			wire.Check(m)
			wire.Pack(m)
			if allOf(m) != before {
				t.Errorf("Check or Pack changed %s", short(m))
			}
		}
		b := withRoom(mustPack(t, m))
		before := bytes.Clone(b[:cap(b)])
		for end := range len(b) + 2 {
			wire.Parse(b[:end])
		}
		if !bytes.Equal(b[:cap(b)], before) {
			t.Errorf("Parse changed %s", short(b))
		}
	}
}

// TestRoomIsNotRead: what stands behind the end of what is handed in is not read.
func TestRoomIsNotRead(t *testing.T) {
	for _, m := range ofEachType() {
		b := mustPack(t, m)
		if got := mustPack(t, roomy(m)); !bytes.Equal(got, b) {
			t.Errorf("Pack reads spare room: %s, not %s", short(got), short(b))
		}
		for end := range b {
			wantNoParse(t, b[:end:len(b)], errShort)
		}
	}
}

func TestAnswersAreNew(t *testing.T) {
	for _, m := range ofEachType() {
		kept := roomy(m)
		b := mustPack(t, kept)
		want := bytes.Clone(b)
		for _, l := range lists(kept) {
			scrawl(l)
		}
		if !bytes.Equal(b, want) {
			t.Errorf("Pack's answer shares what was handed in: type %d", m.Type)
		}
		kept = roomy(m)
		before := allOf(kept)
		b = mustPack(t, kept)
		scrawl(b)
		if allOf(kept) != before || !bytes.Equal(mustPack(t, m), want) {
			t.Errorf("what Pack answers is not the caller's own: type %d", m.Type)
		}
		raw := withRoom(want)
		got, _ := wire.Parse(raw)
		scrawl(raw)
		if !same(got, m) {
			t.Errorf("Parse's answer shares what was handed in: type %d", m.Type)
		}
	}
}

// TestNoTwoListsShare scrawls over each list of what Parse answers, and looks at all else.
func TestNoTwoListsShare(t *testing.T) {
	for _, m := range ofEachType() {
		raw := mustPack(t, m)
		first, _ := wire.Parse(raw)
		second, _ := wire.Parse(raw)
		for i := range lists(first) {
			fresh, _ := wire.Parse(raw)
			all := lists(fresh)
			scrawl(all[i])
			for k, l := range lists(first) {
				if k != i && !bytes.Equal(all[k], l) {
					t.Errorf("type %d: the lists %d and %d share memory", m.Type, i, k)
				}
			}
		}
		for _, l := range lists(first) {
			scrawl(l)
		}
		for i := range first.Log[:cap(first.Log)] {
			first.Log[:cap(first.Log)][i] = api.Entry{Client: 99}
		}
		for i := range first.Blocks[:cap(first.Blocks)] {
			first.Blocks[:cap(first.Blocks)][i] = nil
		}
		if third, _ := wire.Parse(raw); !same(second, m) || !same(third, m) {
			t.Errorf("type %d: two answers share memory", m.Type)
		}
	}
}

// TestSharedListsHandedIn: lists that share their memory are packed as any others.
func TestSharedListsHandedIn(t *testing.T) {
	one := of(7, 128)
	wantPacked(t, api.Message{Type: api.Put, Blocks: [][]byte{one, one, one}})
	wantPacked(t, api.Message{Type: api.Vote, Log: []api.Entry{{Body: one}, {Body: one[:5]}, {Body: one[3:]}}})
}

// TestAlike: the same is answered again, whatever was asked in between.
func TestAlike(t *testing.T) {
	for _, m := range ofEachType() {
		b := mustPack(t, m)
		for _, other := range ofEachType() {
			wire.Parse(mustPack(t, other))
			wire.Pack(withField(other, "Op", 65))
			wire.Parse([]byte{other.Type})
		}
		if !bytes.Equal(mustPack(t, m), b) || wire.Check(m) != api.OK {
			t.Errorf("type %d is packed otherwise the second time", m.Type)
		}
		wantParse(t, b, m, api.OK)
	}
}

// TestUnlike: messages that are not one have not the same bytes.
func TestUnlike(t *testing.T) {
	dice := newDice()
	seen := map[string]api.Message{}
	for range 5000 {
		m := anyMessage(dice)
		if checked(m) != api.OK {
			continue
		}
		b := string(mustPack(t, m))
		if other, is := seen[b]; is && !same(m, other) {
			t.Errorf("%s and %s have the same bytes", short(m), short(other))
		}
		seen[b] = m
	}
}

func FuzzParse(f *testing.F) {
	for _, m := range ofEachType() {
		f.Add(laid(m))
	}
	f.Fuzz(func(t *testing.T, b []byte) { wantRead(t, b) })
}
