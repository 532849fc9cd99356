package journal_test

import (
	"bytes"
	"encoding/binary"
	"fmt"
	"math"
	"math/rand/v2"
	"slices"
	"strings"
	"testing"

	"tabulary/api"
	"tabulary/disk"
	"tabulary/journal"
)

// The numbers of the chapter, told here over again.
const (
	ok        = api.Errno(0)
	errArg    = api.Errno(1)
	errLong   = api.Errno(2)
	errFull   = api.Errno(3)
	errNil    = api.Errno(8)
	errDead   = api.Errno(140)
	errBroken = api.Errno(150)

	size    = 64      // bytes of a sector
	most    = 1 << 16 // sectors of a disk
	longest = 65535   // bytes of a record

	spare = 40 // behind the end of a list, in tests
)

func newDice() *rand.Rand { return rand.New(rand.NewPCG(15, 16)) }

func pick[T any](dice *rand.Rand, from []T) T { return from[dice.IntN(len(from))] }

// run is a region.
func run(at, count int) api.Run { return api.Run{At: at, Count: count} }

// of is so many bytes of one kind.
func of(b byte, count int) []byte { return bytes.Repeat([]byte{b}, count) }

// list is records out of texts.
func list(texts ...string) [][]byte {
	l := make([][]byte, len(texts))
	for i, s := range texts {
		l[i] = []byte(s)
	}
	return l
}

// told is records as one text, which tells them apart.
func told(l [][]byte) string {
	var s strings.Builder
	for _, r := range l {
		fmt.Fprintf(&s, "%d:%s|", len(r), r)
	}
	return s.String()
}

// brief is a text, cut where it is long.
func brief(s string) string {
	if len(s) > 200 {
		return fmt.Sprintf("%q.. (%d bytes)", s[:200], len(s))
	}
	return fmt.Sprintf("%q", s)
}

// anyBytes is so many bytes by dice.
func anyBytes(dice *rand.Rand, count int) []byte {
	b := make([]byte, count)
	for i := range b {
		b[i] = byte(dice.Uint32())
	}
	return b
}

func newDisk(tb testing.TB, sectors int) *disk.Disk {
	tb.Helper()
	d, err := disk.New(sectors)
	if err != ok {
		tb.Fatalf("disk.New(%d): %v", sectors, err)
	}
	return d
}

// diskOf is a disk on which an image lasts.
func diskOf(tb testing.TB, image []byte) *disk.Disk {
	tb.Helper()
	d := newDisk(tb, len(image)/size)
	wantErr(tb, "Write of the image", d.Write(0, image), ok)
	wantErr(tb, "Sync of the image", d.Sync(), ok)
	return d
}

// imageOf is what all sectors of a disk with power read as.
func imageOf(tb testing.TB, d *disk.Disk) []byte {
	tb.Helper()
	b, err := d.Read(0, d.Size())
	wantErr(tb, "Read of the image", err, ok)
	return b
}

func wantErr(tb testing.TB, what string, got, want api.Errno) {
	tb.Helper()
	if got != want {
		tb.Fatalf("%s: %v, want %v", what, got, want)
	}
}

func open(tb testing.TB, d *disk.Disk, r api.Run) *journal.Journal {
	tb.Helper()
	j, err := journal.Open(d, r)
	if err != ok || j == nil {
		tb.Fatalf("Open(%v): %v, %v", r, j, err)
	}
	return j
}

func wantRefused(tb testing.TB, d *disk.Disk, r api.Run, want api.Errno) {
	tb.Helper()
	j, err := journal.Open(d, r)
	if err != want || j != nil {
		tb.Fatalf("Open(%v): %v, %v, want nil, %v", r, j, err, want)
	}
}

func wantRecords(tb testing.TB, j *journal.Journal, want [][]byte) {
	tb.Helper()
	if got := told(j.Records()); got != told(want) {
		tb.Fatalf("Records %s, want %s", brief(got), brief(told(want)))
	}
}

func wantState(tb testing.TB, j *journal.Journal, want [][]byte, room int, count uint64) {
	tb.Helper()
	wantRecords(tb, j, want)
	if j.Room() != room {
		tb.Fatalf("Room %d, want %d", j.Room(), room)
	}
	if j.Count() != count {
		tb.Fatalf("Count %d, want %d", j.Count(), count)
	}
}

func add(tb testing.TB, j *journal.Journal, texts ...string) {
	tb.Helper()
	wantErr(tb, fmt.Sprint("Add of ", texts), j.Add(list(texts...)), ok)
}

func rewrite(tb testing.TB, j *journal.Journal, texts ...string) {
	tb.Helper()
	wantErr(tb, fmt.Sprint("Rewrite of ", texts), j.Rewrite(list(texts...)), ok)
}

// headBytes is a head of a count, an area and a length, as the section 'Words' has it.
func headBytes(count uint64, area byte, length uint32) []byte {
	b := binary.BigEndian.AppendUint64(nil, count)
	b = append(b, area)
	b = binary.BigEndian.AppendUint32(b, length)
	b = append(b, of(0, 43)...)
	return binary.BigEndian.AppendUint64(b, count)
}

// recordBytes is records as the section 'Words' has them.
func recordBytes(l ...[]byte) []byte {
	var b []byte
	for _, r := range l {
		b = binary.BigEndian.AppendUint16(b, uint16(len(r)))
		b = append(b, r...)
	}
	return b
}

// padded is bytes, with noughts up to a sector's end.
func padded(b []byte) []byte {
	b = slices.Clone(b)
	for len(b)%size != 0 {
		b = append(b, 0)
	}
	return b
}

// imageWith is an image of so many sectors, all noughts but for some things at some sectors.
func imageWith(sectors int, things map[int][]byte) []byte {
	b := make([]byte, sectors*size)
	for at, thing := range things {
		copy(b[at*size:], thing)
	}
	return b
}

// greatNumbers are those at which sums and products wrap round.
func greatNumbers() []int {
	return []int{math.MinInt, math.MinInt + 1, math.MinInt / size, math.MinInt / 2, -most, -4, -1, 0, 1, 3, 4, most, most + 1, math.MaxInt / size, math.MaxInt / 2, math.MaxInt - 4, math.MaxInt - 3, math.MaxInt}
}

// The chapter's examples, line by line.

func TestExamples(t *testing.T) {
	d, r := newDisk(t, 10), run(0, 10)
	j := open(t, d, r)
	wantState(t, j, nil, 256, 0)
	add(t, j, "a", "bc")
	wantState(t, j, list("a", "bc"), 249, 1)
	wantState(t, open(t, d, r), list("a", "bc"), 249, 1)
	wantErr(t, "Add of 249 bytes", j.Add([][]byte{of(7, 249)}), errFull)
	wantErr(t, "Add of 247 bytes", j.Add([][]byte{of(7, 247)}), ok)
	wantState(t, j, [][]byte{[]byte("a"), []byte("bc"), of(7, 247)}, 0, 2)
	rewrite(t, j, "x")
	wantState(t, j, list("x"), 253, 3)
	wantRefused(t, d, run(0, 3), errArg)
	wantRefused(t, d, run(8, 4), errArg)
	wantRefused(t, nil, r, errNil)
}

// P15.1

func TestOpenOfNoughts(t *testing.T) {
	for sectors := 4; sectors <= 40; sectors++ {
		d := newDisk(t, sectors)
		for at := range sectors {
			for count := 4; at+count <= sectors; count++ {
				wantState(t, open(t, d, run(at, count)), nil, (count-2)/2*64, 0)
			}
		}
	}
	d := newDisk(t, most)
	wantState(t, open(t, d, run(0, most)), nil, 32767*64, 0)
	wantState(t, open(t, d, run(most-5, 5)), nil, 64, 0)
}

func TestOpenOfNoRegion(t *testing.T) {
	for _, sectors := range []int{1, 3, 4, 5, 12} {
		d := newDisk(t, sectors)
		for at := -3; at <= sectors+3; at++ {
			for count := -3; count <= sectors+6; count++ {
				if count >= 4 && at >= 0 && at+count <= sectors {
					open(t, d, run(at, count))
				} else {
					wantRefused(t, d, run(at, count), errArg)
				}
			}
		}
	}
}

func TestOpenOfGreatNumbers(t *testing.T) {
	d := newDisk(t, 8)
	for _, at := range greatNumbers() {
		for _, count := range greatNumbers() {
			if (at == 0 || at == 1 || at == 3 || at == 4) && count == 4 {
				open(t, d, run(at, count))
			} else {
				wantRefused(t, d, run(at, count), errArg)
			}
		}
	}
}

// Of several errors that one is answered which the chapter names first.
func TestOpenErrorsInOrder(t *testing.T) {
	wantRefused(t, nil, run(-1, 2), errNil)
	d := diskOf(t, imageWith(8, map[int][]byte{1: headBytes(1, 0, 1)}))
	wantRefused(t, d, run(0, 8), errBroken)
	d.Kill()
	wantRefused(t, d, run(0, 3), errArg)
	wantRefused(t, d, run(0, 9), errArg)
	wantRefused(t, d, run(-1, 4), errArg)
	wantRefused(t, d, run(9, 4), errArg)
	wantRefused(t, d, run(0, 8), errDead)
	wantRefused(t, d, run(2, 4), errDead)
	d.Restart(nil)
	wantRefused(t, d, run(0, 8), errBroken)
	open(t, d, run(2, 4))
}

// A head whose one byte is changed is right only where that byte does not matter.
func TestHeadByteByByte(t *testing.T) {
	for _, c := range []struct {
		which int
		count uint64
		area  byte
	}{{0, 2, 0}, {1, 1, 0}, {0, 0x1020304050607080, 1}, {1, 0xff00ff00ff00ff01, 1}} {
		body := recordBytes(of('r', 10), of('s', 20))
		image := imageWith(10, map[int][]byte{c.which: headBytes(c.count, c.area, uint32(len(body))), 2 + 4*int(c.area): body})
		wantState(t, open(t, diskOf(t, image), run(0, 10)), [][]byte{of('r', 10), of('s', 20)}, 256-34, c.count)
		for place := range size {
			for by := 1; by < 256; by++ {
				changed := slices.Clone(image)
				changed[c.which*size+place] ^= byte(by)
				holdOpen(t, changed, run(0, 10))
			}
		}
	}
}

// Bytes 13 to 55 of a head do not matter.
func TestHeadsOtherBytes(t *testing.T) {
	dice := newDice()
	for which := range 2 {
		image := imageWith(6, map[int][]byte{which: headBytes(uint64(10+which), 0, 5), 2: recordBytes([]byte("abc"))})
		for range 100 {
			copy(image[which*size+13:which*size+56], anyBytes(dice, 43))
			wantState(t, open(t, diskOf(t, image), run(0, 6)), list("abc"), 128-5, uint64(10+which))
		}
	}
}

// The count is even in the first head and odd in the second one, and not 0.
func TestHeadsParity(t *testing.T) {
	for _, count := range []uint64{0, 1, 2, 3, 4, 255, 256, 257, 1 << 32, 1<<32 + 1, 1<<63 - 1, 1 << 63, math.MaxUint64 - 1, math.MaxUint64} {
		for which := range 2 {
			image := imageWith(6, map[int][]byte{which: headBytes(count, 0, 5), 2: recordBytes([]byte("abc"))})
			j := open(t, diskOf(t, image), run(0, 6))
			if count != 0 && count%2 == uint64(which) {
				wantState(t, j, list("abc"), 128-5, count)
			} else {
				wantState(t, j, nil, 128, 0)
			}
		}
	}
}

func TestHeadsArea(t *testing.T) {
	for area := range 256 {
		image := imageWith(9, map[int][]byte{1: headBytes(7, byte(area), 5), 2: recordBytes([]byte("abc")), 5: recordBytes([]byte("xyz"))})
		j := open(t, diskOf(t, image), run(0, 9))
		switch area {
		case 0:
			wantState(t, j, list("abc"), 192-5, 7)
		case 1:
			wantState(t, j, list("xyz"), 192-5, 7)
		default:
			wantState(t, j, nil, 192, 0)
		}
	}
}

// A length that is just an area's room is right, one more is not: then the other head holds, or none.
func TestHeadsLength(t *testing.T) {
	for count := 4; count < 12; count++ {
		room := (count - 2) / 2 * 64
		full := recordBytes(of('f', room-2))
		for _, c := range []struct {
			length uint32
			right  bool
		}{{uint32(room), true}, {uint32(room) + 1, false}, {uint32(room) + 2, false}, {uint32(room) + 64, false}, {1 << 31, false}, {1<<32 - 1, false}, {1<<32 - 64, false}} {
			image := imageWith(count+1, map[int][]byte{0: headBytes(4, 0, c.length), 2: full})
			j := open(t, diskOf(t, image), run(0, count))
			if c.right {
				wantState(t, j, [][]byte{of('f', room-2)}, 0, 4)
			} else {
				wantState(t, j, nil, room, 0)
			}
			copy(image[size:], headBytes(3, 1, 0))
			j = open(t, diskOf(t, image), run(0, count))
			if c.right {
				wantState(t, j, [][]byte{of('f', room-2)}, 0, 4)
			} else {
				wantState(t, j, nil, room, 3)
			}
		}
	}
}

// Of two right heads the one of the greater count holds, as numbers without a sign.
func TestHeadOfTheGreaterCount(t *testing.T) {
	for _, c := range []struct{ even, odd uint64 }{{2, 1}, {2, 3}, {4, 1}, {2, 5}, {256, 255}, {256, 257}, {1 << 63, 1<<63 - 1}, {1 << 63, 1<<63 + 1}, {2, math.MaxUint64}, {math.MaxUint64 - 1, 1}, {math.MaxUint64 - 1, math.MaxUint64}, {0, 1}} {
		image := imageWith(8, map[int][]byte{
			0: headBytes(c.even, 0, 6), 1: headBytes(c.odd, 1, 5),
			2: recordBytes([]byte("even")), 5: recordBytes([]byte("odd")),
		})
		j := open(t, diskOf(t, image), run(0, 8))
		if c.even > c.odd {
			wantState(t, j, list("even"), 192-6, c.even)
		} else {
			wantState(t, j, list("odd"), 192-5, c.odd)
		}
	}
}

// A head that holds is held to, though its records are broken, and the other one's are not.
func TestBrokenThoughTheOtherIsNot(t *testing.T) {
	image := imageWith(8, map[int][]byte{
		0: headBytes(2, 0, 6), 1: headBytes(3, 1, 4),
		2: recordBytes([]byte("even")), 5: recordBytes([]byte("odd")),
	})
	wantRefused(t, diskOf(t, image), run(0, 8), errBroken)
	copy(image[size:], headBytes(1, 1, 4))
	wantRecords(t, open(t, diskOf(t, image), run(0, 8)), list("even"))
}

func TestBroken(t *testing.T) {
	for _, c := range []struct {
		bytes  []byte
		length int
		want   api.Errno
	}{
		{nil, 0, ok},
		{[]byte{9, 9, 9}, 0, ok}, // what stands behind the length does not matter
		{[]byte{0}, 1, errBroken},
		{[]byte{0, 0}, 2, ok},
		{[]byte{0, 0, 0}, 3, errBroken},
		{[]byte{0, 0, 0, 0}, 4, ok},
		{[]byte{0, 1}, 2, errBroken},
		{[]byte{0, 1, 7}, 2, errBroken}, // there, but behind the length
		{[]byte{0, 1, 7}, 3, ok},
		{[]byte{0, 1, 7, 0}, 4, errBroken},
		{[]byte{0, 1, 7, 0, 0}, 5, ok},
		{[]byte{0, 1, 7, 0, 2, 8}, 6, errBroken},
		{[]byte{0, 1, 7, 0, 2, 8, 9}, 7, ok},
		{[]byte{1, 0, 7}, 3, errBroken},
		{[]byte{255, 255}, 2, errBroken},
		{[]byte{0, 62}, 64, ok},
		{[]byte{0, 63}, 64, errBroken},
		{[]byte{0, 61}, 64, errBroken},
		{[]byte{0, 60}, 64, ok},
		{[]byte{0, 126}, 128, ok},
		{[]byte{0, 127}, 128, errBroken},
		{[]byte{0, 63}, 65, ok},
	} {
		image := imageWith(6, map[int][]byte{1: headBytes(1, 0, uint32(c.length)), 2: c.bytes})
		d := diskOf(t, image)
		if c.want != ok {
			wantRefused(t, d, run(0, 6), c.want)
			continue
		}
		j := open(t, d, run(0, 6))
		if got := recordBytes(j.Records()...); !bytes.Equal(got, image[2*size:2*size+c.length]) {
			t.Errorf("%v, length %d: records %v", c.bytes, c.length, got)
		}
		holdOpen(t, image, run(0, 6))
	}
}

// Open reads, and writes nothing: it comes to no fuse.
func TestOpenWritesNothing(t *testing.T) {
	dice := newDice()
	for range 100 {
		image := anyImage(dice, 12, run(1, 10))
		d := diskOf(t, image)
		d.Fuse(0)
		journal.Open(d, run(1, 10))
		if d.Waiting() != 0 || d.Dead() || !bytes.Equal(imageOf(t, d), image) {
			t.Fatal("something was written")
		}
	}
}

// What waits is read as what lasts.
func TestOpenOfWhatWaits(t *testing.T) {
	d := newDisk(t, 6)
	d.Write(0, imageWith(6, map[int][]byte{1: headBytes(5, 1, 3), 4: recordBytes([]byte("w"))}))
	wantState(t, open(t, d, run(0, 6)), list("w"), 125, 5)
}

// P15.2

func TestRecordsOfAnyLengths(t *testing.T) {
	d, r := newDisk(t, 300), run(3, 250)
	j := open(t, d, r)
	room := 124 * 64
	var want [][]byte
	for i := range 100 {
		one := of(byte(i), i%70)
		want = append(want, one)
		room -= 2 + len(one)
		wantErr(t, "Add", j.Add([][]byte{one}), ok)
		wantState(t, j, want, room, uint64(i+1))
		wantState(t, open(t, d, r), want, room, uint64(i+1))
	}
}

// The records are told also where the disk has no power, and stay what they were when a call is cut.
func TestRecordsWithoutPower(t *testing.T) {
	for fuse := range 4 {
		d := newDisk(t, 12)
		j := open(t, d, run(0, 12))
		add(t, j, "one", "", "three")
		d.Fuse(fuse)
		wantErr(t, "Add", j.Add(list("four")), errDead)
		wantState(t, j, list("one", "", "three"), 320-14, 1)
		wantErr(t, "Rewrite", j.Rewrite(list("five")), errDead)
		wantState(t, j, list("one", "", "three"), 320-14, 1)
		d.Restart([]int{64, 64})
		wantState(t, j, list("one", "", "three"), 320-14, 1)
	}
	d := newDisk(t, 12)
	j := open(t, d, run(0, 12))
	add(t, j, "one")
	d.Kill()
	wantState(t, j, list("one"), 320-5, 1)
}

// P15.3

// TestAddOnDisk tells byte by byte what stands on the disk.
func TestAddOnDisk(t *testing.T) {
	before := anyBytes(newDice(), 16*size)
	copy(before[3*size:5*size], of(0, 2*size))
	d, r := diskOf(t, before), run(3, 11) // heads 3 and 4, areas 5 to 8 and 9 to 12, 13 left over
	j := open(t, d, r)
	want := slices.Clone(before)

	add(t, j, "a", "bc")
	copy(want[5*size:], padded([]byte("\x00\x01a\x00\x02bc")))
	copy(want[4*size:], headBytes(1, 0, 7))
	wantImage(t, d, want)

	long := bytes.Repeat([]byte("0123456789"), 9)
	wantErr(t, "Add", j.Add([][]byte{long}), ok)
	copy(want[5*size:], padded([]byte("\x00\x01a\x00\x02bc\x00\x5a"+string(long))))
	copy(want[3*size:], headBytes(2, 0, 99))
	wantImage(t, d, want)

	wantErr(t, "Add up to a sector's end", j.Add([][]byte{of('e', 27)}), ok)
	copy(want[6*size+35:], append([]byte{0, 27}, of('e', 27)...))
	copy(want[4*size:], headBytes(3, 0, 128))
	wantImage(t, d, want)

	wantErr(t, "Add from a sector's end on", j.Add([][]byte{nil}), ok)
	copy(want[7*size:], of(0, size))
	copy(want[3*size:], headBytes(4, 0, 130))
	wantImage(t, d, want)

	wantErr(t, "Add of all room", j.Add([][]byte{of('z', 124)}), ok)
	copy(want[7*size+2:], append([]byte{0, 124}, of('z', 124)...))
	copy(want[4*size:], headBytes(5, 0, 256))
	wantImage(t, d, want)
	wantErr(t, "Add without room", j.Add([][]byte{nil}), errFull)
	wantImage(t, d, want)
	wantState(t, open(t, d, r), j.Records(), 0, 5)
}

func wantImage(tb testing.TB, d *disk.Disk, want []byte) {
	tb.Helper()
	if d.Waiting() != 0 {
		tb.Fatal("something waits")
	}
	got := imageOf(tb, d)
	for at := range d.Size() {
		from, to := at*size, (at+1)*size
		if !bytes.Equal(got[from:to], want[from:to]) {
			tb.Fatalf("sector %d: %v, want %v", at, got[from:to], want[from:to])
		}
	}
}

// Add makes four calls that come to the fuse; of none it makes none.
func TestAddsCalls(t *testing.T) {
	for _, l := range [][][]byte{list(""), list("a"), list("a", "b"), {of(1, 62)}, {of(1, 63)}, {of(1, 200), nil}} {
		for fuse := range 6 {
			d := newDisk(t, 10)
			j := open(t, d, run(0, 10))
			d.Fuse(fuse)
			want := ok
			if fuse < 4 {
				want = errDead
			}
			wantErr(t, fmt.Sprint("Add with fuse ", fuse), j.Add(l), want)
			if fuse >= 4 {
				wantCalls(t, d, fuse-4)
			}
		}
	}
	d := newDisk(t, 10)
	j := open(t, d, run(0, 10))
	d.Fuse(0)
	for _, l := range [][][]byte{nil, {}, make([][]byte, 0, 5)} {
		wantErr(t, "Add of none", j.Add(l), ok)
	}
	wantState(t, j, nil, 256, 0)
	wantCalls(t, d, 0)
}

// wantCalls holds a disk to be one that takes just so many calls more, and ends it by that.
func wantCalls(tb testing.TB, d *disk.Disk, calls int) {
	tb.Helper()
	for i := range calls {
		wantErr(tb, fmt.Sprint("call ", i), d.Sync(), ok)
	}
	wantErr(tb, "call at the fuse", d.Sync(), errDead)
}

// stepwise holds a call against the images that there are behind each of its calls of the disk: when the power goes at one of them, what was written and not synced is lost, or is whole, as the fates say.
func stepwise(t *testing.T, start []byte, call func(j *journal.Journal) api.Errno, waits []int, images [][]byte) {
	t.Helper()
	r := run(0, len(start)/size)
	for fuse := range waits {
		for _, fate := range []int{0, 64} {
			d := diskOf(t, start)
			j := open(t, d, r)
			d.Fuse(fuse)
			wantErr(t, fmt.Sprint("fuse ", fuse), call(j), errDead)
			if !d.Dead() || d.Waiting() != waits[fuse] {
				t.Fatalf("fuse %d: dead %v, %d sectors wait, want %d", fuse, d.Dead(), d.Waiting(), waits[fuse])
			}
			d.Restart([]int{fate, fate, fate, fate})
			want := images[fuse]
			if fate == 0 && fuse%2 == 1 {
				want = images[fuse-1]
			}
			wantImage(t, d, want)
		}
	}
	d := diskOf(t, start)
	wantErr(t, "no fuse", call(open(t, d, r)), ok)
	wantImage(t, d, images[len(images)-1])
}

func TestAddStepByStep(t *testing.T) {
	old, news := of('o', 72), of('n', 70)
	start := imageWith(11, map[int][]byte{
		0: of(0xff, size), 1: headBytes(9, 0, 74),
		2: recordBytes(old), 4: of(0xee, size), 5: of(0xdd, size), 6: of(0xcc, 5*size),
	})
	copy(start[3*size+10:], of(0xbb, 54))
	body := slices.Clone(start) // the area's second sector begins with ten bytes of the old record
	copy(body[3*size:], padded(slices.Concat(of('o', 10), recordBytes(news))))
	whole := slices.Clone(body)
	copy(whole, headBytes(10, 0, 74+72))
	add := func(j *journal.Journal) api.Errno { return j.Add([][]byte{news}) }
	stepwise(t, start, add, []int{0, 2, 0, 1}, [][]byte{start, body, body, whole})
}

func TestAddsFullAndLong(t *testing.T) {
	for count := 4; count < 10; count++ {
		room := (count - 2) / 2 * 64
		for have := 0; have+2 <= room; have++ {
			d := newDisk(t, count)
			j := open(t, d, run(0, count))
			if have >= 2 {
				wantErr(t, "Add", j.Add([][]byte{of(1, have-2)}), ok)
			}
			left := j.Room()
			before := imageOf(t, d)
			d.Fuse(0)
			wantErr(t, "one too long", j.Add([][]byte{of(2, left-1)}), errFull)
			wantErr(t, "two too long", j.Add([][]byte{nil, of(2, max(left-3, 0))}), errFull)
			wantErr(t, "long", j.Add([][]byte{nil, of(2, longest+1)}), errLong)
			wantErr(t, "long ahead of full", j.Add([][]byte{of(2, left), of(2, longest+1), of(2, left)}), errLong)
			wantErr(t, "longest, but full", j.Add([][]byte{of(2, longest)}), errFull)
			d.Fuse(-1)
			wantImage(t, d, before)
			if left >= 2 {
				wantErr(t, "just enough", j.Add([][]byte{of(2, left-2)}), ok)
				if j.Room() != 0 {
					t.Fatal("Room", j.Room())
				}
			}
			wantErr(t, "nothing is left", j.Add(list("")), errFull)
			wantErr(t, "none", j.Add(nil), ok)
		}
	}
}

// The longest record goes in where there is room for it, and is told again.
func TestLongestRecord(t *testing.T) {
	d, r := newDisk(t, 2*1025+2), run(0, 2*1025+2)
	j := open(t, d, r)
	dice := newDice()
	a, b := anyBytes(dice, longest), anyBytes(dice, longest)
	wantErr(t, "one more", j.Add([][]byte{append(slices.Clone(a), 1)}), errLong)
	wantErr(t, "one more", j.Rewrite([][]byte{append(slices.Clone(a), 1)}), errLong)
	wantErr(t, "Add", j.Add([][]byte{a}), ok)
	wantState(t, open(t, d, r), [][]byte{a}, 63, 1)
	wantErr(t, "Rewrite", j.Rewrite([][]byte{b}), ok)
	wantState(t, open(t, d, r), [][]byte{b}, 63, 2)
	wantErr(t, "Add of the room", j.Add([][]byte{of(1, 61)}), ok)
	wantState(t, open(t, d, r), [][]byte{b, of(1, 61)}, 0, 3)
}

// A region of a whole disk of the greatest size.
func TestGreatestRegion(t *testing.T) {
	d, r := newDisk(t, most), run(0, most)
	j := open(t, d, r)
	room := 32767 * 64
	l := make([][]byte, room/2)
	wantErr(t, "one more record", j.Add(append(slices.Clone(l), nil)), errFull)
	wantErr(t, "records of no bytes", j.Add(l), ok)
	k := open(t, d, r)
	if len(k.Records()) != len(l) || k.Room() != 0 || k.Count() != 1 {
		t.Fatal(len(k.Records()), k.Room(), k.Count())
	}
	l = make([][]byte, room/(longest+2))
	for i := range l {
		l[i] = of(byte(i), longest)
	}
	wantErr(t, "records of all bytes", k.Rewrite(l), ok)
	wantState(t, open(t, d, r), l, room%(longest+2), 2)
}

// What stands ahead of the length is written again as it reads, not as it read once.
func TestAheadOfTheLengthAsItReads(t *testing.T) {
	d, r := newDisk(t, 10), run(0, 10)
	j := open(t, d, r)
	wantErr(t, "Add", j.Add([][]byte{of('o', 72)}), ok)
	wantErr(t, "Rot ahead of the length", d.Rot(3, 4, 1), ok)
	wantErr(t, "Rot in the sector ahead", d.Rot(2, 40, 2), ok)
	wantErr(t, "Rot behind the length", d.Rot(3, 50, 4), ok)
	add(t, j, "new")
	rotted := of('o', 72)
	rotted[4+62] ^= 1
	rotted[38] ^= 2
	wantRecords(t, open(t, d, r), [][]byte{rotted, []byte("new")})
	want := padded(recordBytes(rotted, []byte("new")))
	if got := imageOf(t, d)[2*size : 4*size]; !bytes.Equal(got, want) {
		t.Fatalf("%v, want %v", got, want)
	}
}

// A journal that was answered ErrDead answers it from then on, and does nothing, whatever becomes of its disk.
func TestDeadForGood(t *testing.T) {
	calls := []func(j *journal.Journal, l [][]byte) api.Errno{(*journal.Journal).Add, (*journal.Journal).Rewrite}
	for first, call := range calls {
		for fuse := range 4 {
			d, r := newDisk(t, 10), run(0, 10)
			j := open(t, d, r)
			add(t, j, "was")
			d.Fuse(fuse)
			wantErr(t, fmt.Sprint("call ", first), call(j, list("x")), errDead)
			d.Restart(nil)
			image := imageOf(t, d)
			d.Fuse(0)
			for _, other := range calls {
				for _, l := range [][][]byte{nil, list("y"), {of(1, 500)}, {of(1, longest+1)}} {
					wantErr(t, "behind it", other(j, l), errDead)
				}
			}
			d.Fuse(-1)
			wantImage(t, d, image)
			wantState(t, j, list("was"), 251, 1)
			k := open(t, d, r)
			add(t, k, "on")
			wantRecords(t, k, list("was", "on"))
		}
	}
}

// A disk without power is told by the disk's calls alone: what is refused ahead of these is refused as ever, and leaves the journal be.
func TestWithoutPower(t *testing.T) {
	d, r := newDisk(t, 10), run(0, 10)
	j := open(t, d, r)
	add(t, j, "was")
	d.Kill()
	wantErr(t, "Add of none", j.Add(nil), ok)
	wantErr(t, "Add, long", j.Add([][]byte{of(1, longest+1)}), errLong)
	wantErr(t, "Add, full", j.Add([][]byte{of(1, 250)}), errFull)
	wantErr(t, "Rewrite, long", j.Rewrite([][]byte{of(1, longest+1)}), errLong)
	wantErr(t, "Rewrite, full", j.Rewrite([][]byte{of(1, 255)}), errFull)
	d.Restart(nil)
	add(t, j, "is")
	wantState(t, open(t, d, r), list("was", "is"), 247, 2)
	for _, call := range []func() api.Errno{
		func() api.Errno { return j.Add(list("no")) },
		func() api.Errno { return open(t, d, r).Rewrite(list("no")) },
		func() api.Errno { return open(t, d, r).Rewrite(nil) },
	} {
		k := open(t, d, r)
		d.Fuse(0)
		if err := call(); err != errDead {
			t.Fatal("call", err)
		}
		wantErr(t, "Add without power", k.Add(list("no")), errDead)
		wantErr(t, "Rewrite without power", k.Rewrite(nil), errDead)
		d.Restart([]int{64})
		wantState(t, open(t, d, r), list("was", "is"), 247, 2)
	}
}

// P15.4

func TestRewriteOnDisk(t *testing.T) {
	before := anyBytes(newDice(), 14*size)
	copy(before[2*size:4*size], of(0, 2*size))
	d, r := diskOf(t, before), run(2, 9) // heads 2 and 3, areas 4 to 6 and 7 to 9, 10 left over
	j := open(t, d, r)
	want := slices.Clone(before)

	rewrite(t, j, "abc")
	copy(want[7*size:], padded([]byte("\x00\x03abc")))
	copy(want[3*size:], headBytes(1, 1, 5))
	wantImage(t, d, want)
	wantState(t, j, list("abc"), 187, 1)

	wantErr(t, "Rewrite of all room", j.Rewrite([][]byte{of('q', 190)}), ok)
	copy(want[4*size:], append([]byte{0, 190}, of('q', 190)...))
	copy(want[2*size:], headBytes(2, 0, 192))
	wantImage(t, d, want)
	wantState(t, j, [][]byte{of('q', 190)}, 0, 2)

	rewrite(t, j)
	copy(want[3*size:], headBytes(3, 1, 0))
	wantImage(t, d, want)
	wantState(t, j, nil, 192, 3)

	wantErr(t, "Add behind it", j.Add([][]byte{of('r', 64)}), ok)
	copy(want[7*size:], padded(recordBytes(of('r', 64))))
	copy(want[2*size:], headBytes(4, 1, 66))
	wantImage(t, d, want)
	wantState(t, open(t, d, r), [][]byte{of('r', 64)}, 126, 4)

	rewrite(t, j, "")
	copy(want[4*size:], of(0, size))
	copy(want[3*size:], headBytes(5, 0, 2))
	wantImage(t, d, want)
	wantState(t, open(t, d, r), list(""), 190, 5)
}

func TestRewriteStepByStep(t *testing.T) {
	start := imageWith(11, map[int][]byte{
		0: headBytes(12, 0, 74), 1: of(0xff, size),
		2: recordBytes(of('o', 72)), 6: of(0xcc, 5*size),
	})
	news := [][]byte{of('n', 70), nil, of('m', 60)}
	body := slices.Clone(start)
	copy(body[6*size:], padded(recordBytes(news...)))
	whole := slices.Clone(body)
	copy(whole[size:], headBytes(13, 1, 136))
	rewrite := func(j *journal.Journal) api.Errno { return j.Rewrite(news) }
	stepwise(t, start, rewrite, []int{0, 3, 0, 1}, [][]byte{start, body, body, whole})
}

// Where there are no records, the head's two calls are all.
func TestRewriteOfNone(t *testing.T) {
	start := imageWith(10, map[int][]byte{1: headBytes(3, 1, 5), 6: recordBytes([]byte("old"))})
	whole := slices.Clone(start)
	copy(whole, headBytes(4, 0, 0))
	for _, l := range [][][]byte{nil, {}} {
		rewrite := func(j *journal.Journal) api.Errno { return j.Rewrite(l) }
		stepwise(t, start, rewrite, []int{0, 1}, [][]byte{start, whole})
	}
	d := diskOf(t, start)
	j := open(t, d, run(0, 10))
	d.Fuse(2)
	rewrite(t, j)
	wantCalls(t, d, 0)
	wantState(t, j, nil, 256, 4)
}

func TestRewritesFullAndLong(t *testing.T) {
	for count := 4; count < 10; count++ {
		room := (count - 2) / 2 * 64
		for _, have := range []int{0, 2, 10, room} {
			d := newDisk(t, count)
			j := open(t, d, run(0, count))
			if have > 0 {
				wantErr(t, "Add", j.Add([][]byte{of(1, have-2)}), ok)
			}
			before := imageOf(t, d)
			d.Fuse(0)
			wantErr(t, "one too long", j.Rewrite([][]byte{of(2, room-1)}), errFull)
			wantErr(t, "two too long", j.Rewrite([][]byte{nil, of(2, room-3)}), errFull)
			wantErr(t, "long ahead of full", j.Rewrite([][]byte{of(2, room), of(2, longest+1)}), errLong)
			wantErr(t, "longest, but full", j.Rewrite([][]byte{of(2, longest)}), errFull)
			d.Fuse(-1)
			wantImage(t, d, before)
			wantErr(t, "just the room", j.Rewrite([][]byte{nil, of(2, room-4)}), ok)
			wantState(t, j, [][]byte{nil, of(2, room-4)}, 0, j.Count())
		}
	}
}

// Counts at their greatest.

func TestCountWrapsRound(t *testing.T) {
	image := imageWith(10, map[int][]byte{1: headBytes(math.MaxUint64, 0, 5), 2: recordBytes([]byte("old"))})
	d, r := diskOf(t, image), run(0, 10)
	j := open(t, d, r)
	wantState(t, j, list("old"), 251, math.MaxUint64)

	add(t, j, "new")
	wantState(t, j, list("old", "new"), 246, 0)
	copy(image, headBytes(0, 0, 10))
	copy(image[2*size:], recordBytes(list("old", "new")...))
	wantImage(t, d, image)
	wantState(t, open(t, d, r), list("old"), 251, math.MaxUint64)

	rewrite(t, j, "all")
	wantState(t, j, list("all"), 251, 1)
	copy(image[size:], headBytes(1, 1, 5))
	copy(image[6*size:], recordBytes([]byte("all")))
	wantImage(t, d, image)
	wantState(t, open(t, d, r), list("all"), 251, 1)

	add(t, j, "more")
	wantState(t, j, list("all", "more"), 245, 2)
	wantState(t, open(t, d, r), list("all", "more"), 245, 2)
}

func TestCountsAhead(t *testing.T) {
	for _, from := range []uint64{1, 2, 254, 255, 256, 65535, 1<<32 - 1, 1 << 32, 1<<63 - 1, 1 << 63, math.MaxUint64 - 2, math.MaxUint64 - 1} {
		image := imageWith(10, map[int][]byte{int(from % 2): headBytes(from, 1, 5), 6: recordBytes([]byte("old"))})
		d, r := diskOf(t, image), run(0, 10)
		j := open(t, d, r)
		add(t, j, "new")
		copy(image[int(1-from%2)*size:], headBytes(from+1, 1, 10))
		copy(image[6*size:], recordBytes(list("old", "new")...))
		wantImage(t, d, image)
		wantState(t, open(t, d, r), list("old", "new"), 246, from+1)
	}
}

// Of heads none of which is right the second one is written.
func TestNoHeadHolds(t *testing.T) {
	dice := newDice()
	for range 20 {
		image := anyBytes(dice, 8*size)
		image[0], image[56] = 1, 2
		image[size], image[size+56] = 3, 4
		d, r := diskOf(t, image), run(0, 8)
		j := open(t, d, r)
		wantState(t, j, nil, 192, 0)
		add(t, j, "a")
		copy(image[size:], headBytes(1, 0, 3))
		copy(image[2*size:], padded([]byte("\x00\x01a")))
		wantImage(t, d, image)
		wantState(t, open(t, d, r), list("a"), 189, 1)
	}
}

// Nil, and what is shared.

func TestNil(t *testing.T) {
	var j *journal.Journal
	if l := j.Records(); len(l) != 0 {
		t.Error("Records", l)
	}
	if j.Room() != 0 || j.Count() != 0 {
		t.Error("Room, Count", j.Room(), j.Count())
	}
	for _, l := range [][][]byte{nil, list("a"), {of(1, longest+1)}} {
		wantErr(t, "Add", j.Add(l), errNil)
		wantErr(t, "Rewrite", j.Rewrite(l), errNil)
	}
	for _, r := range []api.Run{run(0, 4), run(0, 0), run(-1, -1)} {
		wantRefused(t, nil, r, errNil)
	}
}

// roomy is records in lists with room behind their ends.
func roomy(l [][]byte) [][]byte {
	m := make([][]byte, 0, len(l)+spare)
	for _, r := range l {
		m = append(m, append(make([]byte, 0, len(r)+spare), r...))
	}
	return m
}

// spoil writes over all that lists have, with the room behind their ends.
func spoil(l [][]byte) {
	l = l[:cap(l)]
	for i, r := range l {
		r = r[:cap(r)]
		for k := range r {
			r[k] = 0xaa
		}
		l[i] = []byte("spoiled")
	}
}

func TestHandedInIsNotChanged(t *testing.T) {
	d := newDisk(t, 30)
	j := open(t, d, run(0, 30))
	want := roomy(list("one", "", strings.Repeat("three", 20)))
	for _, call := range []func([][]byte) api.Errno{j.Add, j.Rewrite, j.Add} {
		l := roomy(list("one", "", strings.Repeat("three", 20)))
		wantErr(t, "call", call(l), ok)
		for i, r := range l[:cap(l)] {
			if i >= len(want) && r != nil {
				t.Fatal("a record was put behind the end")
			}
			if i < len(want) && !bytes.Equal(r[:cap(r)], want[i][:cap(want[i])]) {
				t.Fatalf("record %d was changed", i)
			}
		}
	}
}

func TestHandedInIsNotKept(t *testing.T) {
	d, r := newDisk(t, 30), run(0, 30)
	j := open(t, d, r)
	want := list("one", "", strings.Repeat("three", 20))
	for _, call := range []func([][]byte) api.Errno{j.Rewrite, j.Add} {
		l := roomy(list("one", "", strings.Repeat("three", 20)))
		wantErr(t, "call", call(l), ok)
		spoil(l)
		wantRecords(t, j, want)
		wantRecords(t, open(t, d, r), want)
		want = append(want, list("one", "", strings.Repeat("three", 20))...)
	}
}

func TestHandedOutIsNew(t *testing.T) {
	d, r := newDisk(t, 30), run(0, 30)
	j := open(t, d, r)
	want := list("one", "", "two", "", strings.Repeat("three", 20), "4")
	add(t, j, "one", "", "two", "")
	add(t, j, strings.Repeat("three", 20), "4")
	image := imageOf(t, d)
	for _, k := range []*journal.Journal{open(t, d, r), j} {
		l := k.Records()
		for i := range l { // what is put into the room behind one record is not seen in another
			l[i] = append(l[i], "behind"...)
		}
		for i := range l {
			if string(l[i]) != string(want[i])+"behind" {
				t.Fatalf("record %d: %q", i, l[i])
			}
		}
		spoil(l)
		wantRecords(t, k, want)
		wantImage(t, d, image)
		first, second := k.Records(), k.Records()
		spoil(first)
		if told(second) != told(want) {
			t.Fatal("two answers share memory")
		}
	}
}

// Two journals side by side on one disk do not meet.
func TestSideBySide(t *testing.T) {
	dice := newDice()
	d := newDisk(t, 30)
	regions := []api.Run{run(0, 7), run(7, 4), run(11, 19)}
	var list []*journal.Journal
	want := make([][][]byte, len(regions))
	for _, r := range regions {
		list = append(list, open(t, d, r))
	}
	for range 2000 {
		i := dice.IntN(len(list))
		l := anyList(dice, 60)
		if dice.IntN(4) == 0 && list[i].Rewrite(l) == ok {
			want[i] = l
		} else if list[i].Add(l) == ok {
			want[i] = append(slices.Clone(want[i]), l...)
		}
		for k, r := range regions {
			wantRecords(t, list[k], want[k])
			wantRecords(t, open(t, d, r), want[k])
		}
	}
}

// The chapter told over again.

// model is a journal whose calls of the disk are made by hand, on a disk of its own.
type model struct {
	d            *disk.Disk
	at, sectors  int
	count        uint64
	area, length int
	l            [][]byte
	dead         bool
}

// areaSize is how many sectors an area has.
func (m *model) areaSize() int { return (m.sectors - 2) / 2 }

func (m *model) room() int { return 64*m.areaSize() - m.length }

// modelOf is P15.1, told of an image.
func modelOf(d *disk.Disk, image []byte, r api.Run) (*model, api.Errno) {
	m := &model{d: d, at: r.At, sectors: r.Count}
	for which := range 2 {
		h := image[(r.At+which)*64:][:64]
		count, again := binary.BigEndian.Uint64(h), binary.BigEndian.Uint64(h[56:])
		area, length := h[8], binary.BigEndian.Uint32(h[9:])
		right := count == again && count != 0 && count&1 == uint64(which) && (area == 0 || area == 1) && int64(length) <= int64(64*m.areaSize())
		if right && count > m.count {
			m.count, m.area, m.length = count, int(area), int(length)
		}
	}
	from := 64 * (r.At + 2 + m.area*m.areaSize())
	rest := string(image[from : from+m.length])
	for rest != "" {
		if len(rest) == 1 {
			return nil, errBroken
		}
		n := 2 + 256*int(rest[0]) + int(rest[1])
		if n > len(rest) {
			return nil, errBroken
		}
		m.l = append(m.l, []byte(rest[2:n]))
		rest = rest[n:]
	}
	return m, ok
}

// refused is what P15.3 and P15.4 say ahead of the disk's calls.
func (m *model) refused(l [][]byte, room int) api.Errno {
	if m.dead {
		return errDead
	}
	if slices.ContainsFunc(l, func(r []byte) bool { return len(r) > longest }) {
		return errLong
	}
	if len(recordBytes(l...)) > room {
		return errFull
	}
	return ok
}

func (m *model) add(l [][]byte) api.Errno {
	err := m.refused(l, m.room())
	if err != ok || len(l) == 0 {
		return err
	}
	return m.write(l, m.area, m.length, append(slices.Clone(m.l), l...))
}

func (m *model) rewrite(l [][]byte) api.Errno {
	if err := m.refused(l, 64*m.areaSize()); err != ok {
		return err
	}
	return m.write(l, 1-m.area, 0, l)
}

// write is the disk's calls, one behind the other.
func (m *model) write(l [][]byte, area, length int, all [][]byte) api.Errno {
	first := m.at + 2 + area*m.areaSize() + length/64
	var b []byte
	if length%64 != 0 {
		old, _ := m.d.Read(first, 1)
		b = append(b, old[:min(len(old), length%64)]...)
	}
	b = padded(append(b, recordBytes(l...)...))
	length += len(recordBytes(l...))
	which := 1 // the head that does not hold
	if m.count%2 == 1 {
		which = 0
	}
	calls := []func() api.Errno{
		func() api.Errno { return m.d.Write(first, b) },
		m.d.Sync,
		func() api.Errno { return m.d.Write(m.at+which, headBytes(m.count+1, byte(area), uint32(length))) },
		m.d.Sync,
	}
	if len(l) == 0 {
		calls = calls[2:]
	}
	for _, call := range calls {
		if err := call(); err != ok {
			m.dead = true
			return err
		}
	}
	m.count, m.area, m.length, m.l = m.count+1, area, length, all
	return ok
}

// holdOpen holds Open of an image against the model.
func holdOpen(tb testing.TB, image []byte, r api.Run) {
	tb.Helper()
	m, want := modelOf(nil, image, r)
	d := diskOf(tb, image)
	if want != ok {
		wantRefused(tb, d, r, want)
		return
	}
	wantState(tb, open(tb, d, r), m.l, m.room(), m.count)
}

// anyImage is an image with heads and records by dice, most of them right.
func anyImage(dice *rand.Rand, sectors int, r api.Run) []byte {
	image := anyBytes(dice, sectors*size)
	room := (r.Count - 2) / 2 * 64
	for which := range 2 {
		count := pick(dice, []uint64{0, 1, 2, 3, 4, 5, 6, 255, 256, 257, 1 << 40, math.MaxUint64 - 1, math.MaxUint64})
		length := pick(dice, []int{0, 1, 2, 3, 5, 62, 63, 64, 65, 66, 126, 127, 128, 129, room - 1, room, room + 1, dice.IntN(room + 1)})
		h := headBytes(count, byte(dice.IntN(2)), uint32(length))
		if dice.IntN(3) > 0 {
			h = headBytes(count/2*2+uint64(which), byte(dice.IntN(2)), uint32(length))
		}
		if dice.IntN(4) == 0 {
			h[dice.IntN(size)] ^= 1 << dice.IntN(8)
		}
		copy(image[(r.At+which)*size:], h)
		area := image[(r.At+2+which*((r.Count-2)/2))*size:][:room]
		copy(area, records(dice, room, length))
	}
	return image
}

// records is bytes of an area that are often just records of a length.
func records(dice *rand.Rand, room, length int) []byte {
	var b []byte
	for len(b) < room {
		left := room - len(b)
		if len(b) < length && dice.IntN(8) > 0 {
			left = length - len(b)
		}
		n := max(left-2, 0)
		if dice.IntN(2) == 0 {
			n = dice.IntN(n + 1)
		}
		b = append(b, recordBytes(anyBytes(dice, n))...)
	}
	return b[:room]
}

func TestOpenOfAnyBytes(t *testing.T) {
	dice := newDice()
	counts := map[api.Errno]int{}
	for range 20000 {
		r := run(dice.IntN(4), 4+dice.IntN(8))
		image := anyImage(dice, r.At+r.Count+dice.IntN(3), r)
		holdOpen(t, image, r)
		m, err := modelOf(nil, image, r)
		counts[err]++
		if err == ok && m.length > 0 {
			counts[-1]++
		}
	}
	if counts[errBroken] < 1000 || counts[-1] < 1000 {
		t.Error("the dice are no good:", counts)
	}
}

// anyList is records by dice, of at most so many bytes in all, or about that.
func anyList(dice *rand.Rand, bytes int) [][]byte {
	var l [][]byte
	for range dice.IntN(4) {
		l = append(l, anyBytes(dice, pick(dice, []int{0, 1, 2, dice.IntN(bytes), dice.IntN(bytes/2 + 1), 62, 60})))
	}
	return l
}

// twin is a journal and its model, each with its own disk.
type twin struct {
	r api.Run
	d *disk.Disk
	j *journal.Journal
	m *model
}

func newTwin(tb testing.TB, image []byte, r api.Run) *twin {
	tb.Helper()
	w := &twin{r: r, d: diskOf(tb, image)}
	m, err := modelOf(diskOf(tb, image), image, r)
	if err != ok {
		wantRefused(tb, w.d, r, err)
		return nil
	}
	w.m, w.j = m, open(tb, w.d, r)
	return w
}

// step is one thing that is done to a twin.
type step struct {
	kind  int
	l     [][]byte
	fates []int
	n     int
	place int
	by    byte
}

const (
	stepAdd = iota
	stepRewrite
	stepFuse
	stepRestart
	stepKill
	stepRot
	stepReopen
	stepKinds
)

// take does a step to both, and holds one against the other. It tells whether there is still a journal.
func (w *twin) take(tb testing.TB, s step) bool {
	tb.Helper()
	switch s.kind {
	case stepAdd:
		wantErr(tb, "Add", w.j.Add(s.l), w.m.add(s.l))
	case stepRewrite:
		wantErr(tb, "Rewrite", w.j.Rewrite(s.l), w.m.rewrite(s.l))
	case stepFuse:
		w.d.Fuse(s.n)
		w.m.d.Fuse(s.n)
	case stepRestart:
		w.d.Restart(s.fates)
		w.m.d.Restart(s.fates)
	case stepKill:
		w.d.Kill()
		w.m.d.Kill()
	case stepRot:
		w.d.Rot(s.n, s.place, s.by)
		w.m.d.Rot(s.n, s.place, s.by)
	case stepReopen:
		if !w.reopen(tb) {
			return false
		}
	}
	w.hold(tb)
	return true
}

// reopen opens both anew.
func (w *twin) reopen(tb testing.TB) bool {
	tb.Helper()
	if w.m.d.Dead() {
		wantRefused(tb, w.d, w.r, errDead)
		return true
	}
	m, err := modelOf(w.m.d, imageOf(tb, w.m.d), w.r)
	if err != ok {
		wantRefused(tb, w.d, w.r, err)
		return false
	}
	w.m, w.j = m, open(tb, w.d, w.r)
	return true
}

func (w *twin) hold(tb testing.TB) {
	tb.Helper()
	wantState(tb, w.j, w.m.l, w.m.room(), w.m.count)
	if w.d.Dead() != w.m.d.Dead() || w.d.Waiting() != w.m.d.Waiting() {
		tb.Fatalf("dead %v, %d wait, want %v, %d", w.d.Dead(), w.d.Waiting(), w.m.d.Dead(), w.m.d.Waiting())
	}
	if !w.d.Dead() && !bytes.Equal(imageOf(tb, w.d), imageOf(tb, w.m.d)) {
		tb.Fatal("other bytes stand on the disk")
	}
}

func anyStep(dice *rand.Rand, r api.Run) step {
	s := step{kind: pick(dice, []int{stepAdd, stepAdd, stepAdd, stepAdd, stepRewrite, stepRewrite, stepFuse, stepRestart, stepRestart, stepReopen, stepReopen, stepKill, stepRot})}
	switch s.kind {
	case stepAdd, stepRewrite:
		s.l = anyList(dice, 64)
		if dice.IntN(30) == 0 {
			s.l = append(s.l, of(1, longest+dice.IntN(2)))
		}
	case stepFuse:
		s.n = dice.IntN(12) - 1
	case stepRestart:
		s.fates = anyFates(dice)
	case stepRot:
		s.n, s.place, s.by = r.At+dice.IntN(r.Count), dice.IntN(size), byte(1)<<dice.IntN(8)
	}
	return s
}

func anyFates(dice *rand.Rand) []int {
	fates := make([]int, dice.IntN(6))
	for i := range fates {
		fates[i] = pick(dice, []int{0, 64, dice.IntN(65)})
	}
	return fates
}

func TestAnySteps(t *testing.T) {
	dice := newDice()
	for range 1500 {
		r := run(dice.IntN(4), 4+dice.IntN(9))
		image := make([]byte, (r.At+r.Count+dice.IntN(3))*size)
		if dice.IntN(3) == 0 {
			image = anyImage(dice, len(image)/size, r)
		}
		w := newTwin(t, image, r)
		for range 40 {
			if w == nil || !w.take(t, anyStep(dice, r)) {
				break
			}
		}
	}
}

// All runs of a few steps, each cut by the power at each call of the disk, with some fates.
func TestAllShortRuns(t *testing.T) {
	steps := []step{
		{kind: stepAdd, l: list("a")},
		{kind: stepAdd, l: [][]byte{of('b', 62)}},
		{kind: stepAdd, l: [][]byte{of('c', 70), nil}},
		{kind: stepRewrite, l: list("d", "e")},
		{kind: stepRewrite, l: [][]byte{of('f', 126)}},
		{kind: stepRewrite},
		{kind: stepFuse, n: 0},
		{kind: stepFuse, n: 1},
		{kind: stepFuse, n: 3},
		{kind: stepRestart, fates: []int{30, 64, 9}},
		{kind: stepReopen},
	}
	const deep = 5
	places := make([]int, deep)
	for {
		w := newTwin(t, make([]byte, 7*size), run(1, 6))
		for _, p := range places {
			if !w.take(t, steps[p]) {
				break
			}
		}
		i := 0
		for ; i < deep; i++ {
			if places[i]++; places[i] < len(steps) {
				break
			}
			places[i] = 0
		}
		if i == deep {
			return
		}
	}
}

// P15.5

// cut is what came of a call that was cut.
type cut struct {
	before, after [][]byte
	err           api.Errno
}

// wantWholeOrNot holds the records that are told behind a restart to be those ahead of a call, or those behind it.
func wantWholeOrNot(tb testing.TB, j *journal.Journal, c cut) [][]byte {
	tb.Helper()
	now := told(j.Records())
	if now == told(c.after) {
		return c.after
	}
	if now == told(c.before) && c.err != ok {
		return c.before
	}
	tb.Fatalf("%v: records %s, want %s or %s", c.err, brief(now), brief(told(c.before)), brief(told(c.after)))
	return nil
}

// Each call, cut at each place, with every fate of each of the sectors that waited, though not with all of them put together.
func TestWholeOrNotAtAll(t *testing.T) {
	prefixes := [][]step{
		nil,
		{{kind: stepAdd, l: list("first")}},
		{{kind: stepAdd, l: list("first")}, {kind: stepAdd, l: [][]byte{of('2', 55)}}},
		{{kind: stepAdd, l: [][]byte{of('1', 62)}}, {kind: stepRewrite, l: list("x", "y")}},
		{{kind: stepAdd, l: [][]byte{of('1', 80)}}, {kind: stepRewrite, l: [][]byte{of('2', 70)}}, {kind: stepAdd, l: list("z")}},
		{{kind: stepAdd, l: list("a")}, {kind: stepRewrite}},
	}
	calls := []step{
		{kind: stepAdd, l: list("n")},
		{kind: stepAdd, l: [][]byte{nil}},
		{kind: stepAdd, l: [][]byte{of('n', 60), of('m', 3)}},
		{kind: stepRewrite, l: list("n", "m")},
		{kind: stepRewrite, l: [][]byte{of('n', 100)}},
		{kind: stepRewrite},
	}
	for _, ahead := range prefixes {
		w := newTwin(t, make([]byte, 10*size), run(1, 9))
		for _, s := range ahead {
			w.take(t, s)
		}
		for _, s := range calls {
			for fuse := range 4 {
				cutInAllWays(t, imageOf(t, w.d), s, fuse)
			}
		}
	}
}

func cutInAllWays(t *testing.T, image []byte, s step, fuse int) {
	t.Helper()
	r := run(1, 9)
	for first := range size + 1 {
		for _, second := range []int{0, 1, 9, 10, 63, 64, first} {
			for _, third := range []int{0, 33, 64, first} {
				d := diskOf(t, image)
				j := open(t, d, r)
				c := cut{before: j.Records()}
				d.Fuse(fuse)
				if s.kind == stepAdd {
					c.after = append(j.Records(), s.l...)
					c.err = j.Add(s.l)
				} else {
					c.after = s.l
					c.err = j.Rewrite(s.l)
				}
				waits := d.Waiting()
				d.Restart([]int{first, second, third})
				k := open(t, d, r)
				now := wantWholeOrNot(t, k, c)
				outside(t, d, image)
				// It goes on from there as any other.
				add(t, k, "on")
				wantRecords(t, open(t, d, r), append(slices.Clone(now), []byte("on")))
				if waits < 3 && third == 0 {
					break
				}
			}
		}
	}
}

// outside holds what lies ahead of sector 1 to be as it was.
func outside(tb testing.TB, d *disk.Disk, image []byte) {
	tb.Helper()
	if b, err := d.Read(0, 1); err != ok || !bytes.Equal(b, image[:size]) {
		tb.Fatal("something outside of the region was written")
	}
}

// The power goes again and again, in the midst of anything.
func TestPowerGoesAgainAndAgain(t *testing.T) {
	dice := newDice()
	for range 150 {
		r := run(2, 4+dice.IntN(10))
		image := anyBytes(dice, (r.At+r.Count+2)*size)
		copy(image[r.At*size:], make([]byte, r.Count*size))
		d := diskOf(t, image)
		j := open(t, d, r)
		var now [][]byte
		for range 60 {
			d.Fuse(dice.IntN(14))
			c := anyCut(dice, j, now)
			if c.err == ok {
				now = c.after
				wantRecords(t, j, now)
			} else if c.err != errDead {
				wantRecords(t, j, now)
				continue
			}
			if c.err == errDead || dice.IntN(4) == 0 {
				d.Restart(anyFates(dice))
				j = open(t, d, r)
				now = wantWholeOrNot(t, j, c)
			}
		}
		d.Restart(nil)
		got := imageOf(t, d)
		from, to := r.At*size, (r.At+r.Count)*size
		if !bytes.Equal(got[:from], image[:from]) || !bytes.Equal(got[to:], image[to:]) {
			t.Fatal("something outside of the region was written")
		}
	}
}

// anyCut is a call by dice, and what it may come to.
func anyCut(dice *rand.Rand, j *journal.Journal, now [][]byte) cut {
	l := anyList(dice, 50)
	if dice.IntN(3) == 0 {
		return cut{now, l, j.Rewrite(l)}
	}
	return cut{now, append(slices.Clone(now), l...), j.Add(l)}
}

// P15.6

func TestOpenedAnew(t *testing.T) {
	dice := newDice()
	for range 300 {
		r := run(dice.IntN(5), 4+dice.IntN(30))
		d := newDisk(t, r.At+r.Count)
		j := open(t, d, r)
		for range 30 {
			anyCut(dice, j, nil)
			k := open(t, d, r)
			wantState(t, k, j.Records(), j.Room(), j.Count())
			if dice.IntN(3) == 0 {
				j = k
			}
		}
	}
}

// The same calls are answered the same, however often they are made.
func TestAlike(t *testing.T) {
	run := func() []byte {
		dice := newDice()
		d := newDisk(t, 20)
		j := open(t, d, run(0, 20))
		for range 200 {
			anyCut(dice, j, nil)
		}
		return imageOf(t, d)
	}
	if !bytes.Equal(run(), run()) {
		t.Fatal("the same calls came to other bytes")
	}
}

// madeOf reads steps out of bytes, four at a time.
func madeOf(data []byte, r api.Run) []step {
	var steps []step
	for ; len(data) >= 4; data = data[4:] {
		a, b, c := int(data[1]), int(data[2]), int(data[3])
		s := step{kind: int(data[0]) % stepKinds}
		switch s.kind {
		case stepAdd, stepRewrite:
			for i := range a % 4 {
				s.l = append(s.l, of(data[2]+byte(i), (c+i*b)%130))
			}
		case stepFuse:
			s.n = a%8 - 1
		case stepRestart:
			s.fates = []int{a, b, c}
		case stepRot:
			s.n, s.place, s.by = r.At+a%r.Count, b%size, data[3]
		}
		steps = append(steps, s)
	}
	return steps
}

func FuzzSteps(f *testing.F) {
	f.Add([]byte{}, []byte{0, 2, 65, 1, 6, 0, 0, 0, 1, 1, 66, 70, 0, 3, 67, 9})
	f.Add([]byte{}, []byte{0, 1, 65, 9, 2, 3, 0, 0, 0, 2, 66, 80, 3, 10, 64, 0, 6, 0, 0, 0, 1, 0, 0, 0})
	f.Add(slices.Concat(make([]byte, size), headBytes(math.MaxUint64, 1, 4), make([]byte, 2*size)), []byte{0, 1, 65, 9, 6, 0, 0, 0, 1, 1, 2, 3, 5, 2, 3, 4, 6, 0, 0, 0})
	f.Fuzz(func(t *testing.T, begin, data []byte) {
		r := run(1, 8)
		image := make([]byte, 10*size)
		copy(image[r.At*size:], begin)
		w := newTwin(t, image, r)
		for _, s := range madeOf(data[:min(len(data), 400)], r) {
			if w == nil || !w.take(t, s) {
				return
			}
		}
	})
}
