package store_test

import (
	"bytes"
	"encoding/binary"
	"fmt"
	"maps"
	"math"
	"math/rand/v2"
	"slices"
	"testing"

	"tabulary/api"
	"tabulary/block"
	"tabulary/disk"
	"tabulary/journal"
	"tabulary/store"
)

// The numbers of the chapter, told here over again.
const (
	ok        = api.Errno(0)
	errArg    = api.Errno(1)
	errLong   = api.Errno(2)
	errFull   = api.Errno(3)
	errNone   = api.Errno(4)
	errThere  = api.Errno(5)
	errShape  = api.Errno(6)
	errNil    = api.Errno(8)
	errDead   = api.Errno(140)
	errBroken = api.Errno(150)

	size       = 64      // bytes of a sector
	blockBytes = 128     // bytes of a block, and of a cell
	mostBlocks = 4096    // blocks of a shelf
	most       = 1 << 16 // sectors of a disk
)

func newDice() *rand.Rand { return rand.New(rand.NewPCG(17, 18)) }

func pick[T any](dice *rand.Rand, from []T) T { return from[dice.IntN(len(from))] }

func run(at, count int) api.Run { return api.Run{At: at, Count: count} }

// region is one with so many sectors at these places.
func region(journalAt, journalCount, dataAt, dataCount int) api.Region {
	return api.Region{Journal: run(journalAt, journalCount), Data: run(dataAt, dataCount)}
}

func shelf(key uint64, shard uint8, cells ...int) api.Shelf {
	return api.Shelf{Key: key, Shard: shard, Cells: cells}
}

// of is so many bytes of one kind.
func of(b byte, count int) []byte { return bytes.Repeat([]byte{b}, count) }

// right is the right block of a key, a stripe and a shard.
func right(key uint64, stripe int, shard uint8) []byte {
	b, _ := block.Pack(api.Block{Key: key, Stripe: uint32(stripe), Shard: shard, Data: []byte{byte(key), byte(stripe), shard}})
	return b
}

// rights are so many right blocks, stripe by stripe.
func rights(key uint64, shard uint8, count int) [][]byte {
	l := make([][]byte, count)
	for i := range l {
		l[i] = right(key, i, shard)
	}
	return l
}

// same are so many blocks of one kind of bytes, which are right nowhere.
func same(b byte, count int) [][]byte {
	l := make([][]byte, count)
	for i := range l {
		l[i] = of(b, blockBytes)
	}
	return l
}

// The records as the section 'Words' has them.

func standingRecord(key uint64, shard byte, cells ...int) []byte {
	b := binary.BigEndian.AppendUint64([]byte{1}, key)
	b = binary.BigEndian.AppendUint16(append(b, shard), uint16(len(cells)))
	for _, c := range cells {
		b = binary.BigEndian.AppendUint16(b, uint16(c))
	}
	return b
}

func givenUpRecord(key uint64) []byte { return binary.BigEndian.AppendUint64([]byte{2}, key) }

func movedRecord(key uint64, stripe, cell int) []byte {
	b := binary.BigEndian.AppendUint64([]byte{3}, key)
	b = binary.BigEndian.AppendUint16(b, uint16(stripe))
	return binary.BigEndian.AppendUint16(b, uint16(cell))
}

func spoiledRecord(cell int) []byte { return binary.BigEndian.AppendUint16([]byte{4}, uint16(cell)) }

func wantErr(tb testing.TB, what string, got, want api.Errno) {
	tb.Helper()
	if got != want {
		tb.Fatalf("%s: %v, want %v", what, got, want)
	}
}

func newDisk(tb testing.TB, sectors int) *disk.Disk {
	tb.Helper()
	d, err := disk.New(sectors)
	wantErr(tb, "disk.New", err, ok)
	return d
}

// diskOf is a disk on which an image lasts.
func diskOf(tb testing.TB, image []byte) *disk.Disk {
	tb.Helper()
	d := newDisk(tb, len(image)/size)
	wantErr(tb, "Write of the image", d.Write(0, image), ok)
	wantErr(tb, "Sync of the image", d.Sync(), ok)
	return d
}

// imageOf is what all sectors of a disk with power read as.
func imageOf(tb testing.TB, d *disk.Disk) []byte {
	tb.Helper()
	b, err := d.Read(0, d.Size())
	wantErr(tb, "Read of the image", err, ok)
	return b
}

// withRecords is a disk in whose journal these records stand.
func withRecords(tb testing.TB, sectors int, g api.Region, l ...[]byte) *disk.Disk {
	tb.Helper()
	d := newDisk(tb, sectors)
	j, err := journal.Open(d, g.Journal)
	wantErr(tb, "journal.Open", err, ok)
	wantErr(tb, "journal.Add", j.Add(l), ok)
	return d
}

// wantRecords holds the records of a store's journal.
func wantRecords(tb testing.TB, d *disk.Disk, g api.Region, want ...[]byte) {
	tb.Helper()
	j, err := journal.Open(d, g.Journal)
	wantErr(tb, "journal.Open", err, ok)
	if !slices.EqualFunc(j.Records(), want, bytes.Equal) {
		tb.Fatalf("records %v, want %v", j.Records(), want)
	}
}

func open(tb testing.TB, d *disk.Disk, g api.Region) *store.Store {
	tb.Helper()
	s, err := store.Open(d, g)
	if err != ok || s == nil {
		tb.Fatalf("Open(%v): %v, %v", g, s, err)
	}
	return s
}

func wantRefused(tb testing.TB, d *disk.Disk, g api.Region, want api.Errno) {
	tb.Helper()
	if s, err := store.Open(d, g); s != nil || err != want {
		tb.Fatalf("Open(%v): %v, %v, want nil, %v", g, s, err, want)
	}
}

// small is the region of the chapter's examples, on a disk of 60 sectors: 20 cells.
func small() api.Region { return region(0, 20, 20, 40) }

func newStore(tb testing.TB) (*disk.Disk, *store.Store) {
	tb.Helper()
	d := newDisk(tb, 60)
	return d, open(tb, d, small())
}

func put(tb testing.TB, s *store.Store, key uint64, shard uint8, count int) {
	tb.Helper()
	wantErr(tb, fmt.Sprintf("Put(%d, %d, %d right blocks)", key, shard, count), s.Put(key, shard, rights(key, shard, count)), ok)
}

func wantPut(tb testing.TB, s *store.Store, key uint64, shard uint8, blocks [][]byte, want api.Errno) {
	tb.Helper()
	wantErr(tb, fmt.Sprintf("Put(%d, %d, %d blocks)", key, shard, len(blocks)), s.Put(key, shard, blocks), want)
}

func wantDrop(tb testing.TB, s *store.Store, key uint64, want api.Errno) {
	tb.Helper()
	wantErr(tb, fmt.Sprintf("Drop(%d)", key), s.Drop(key), want)
}

func wantMend(tb testing.TB, s *store.Store, key uint64, stripe int, raw []byte, want api.Errno) {
	tb.Helper()
	wantErr(tb, fmt.Sprintf("Mend(%d, %d, %d bytes)", key, stripe, len(raw)), s.Mend(key, stripe, raw), want)
}

func wantGet(tb testing.TB, s *store.Store, key uint64, shard uint8, want [][]byte) {
	tb.Helper()
	got, blocks, err := s.Get(key)
	if got != shard || err != ok || !slices.EqualFunc(blocks, want, bytes.Equal) {
		tb.Fatalf("Get(%d): %d, %d blocks, %v, want %d, %d blocks", key, got, len(blocks), err, shard, len(want))
	}
}

// wantNoGet holds Get and Bad to be refused.
func wantNoGet(tb testing.TB, s *store.Store, key uint64, want api.Errno) {
	tb.Helper()
	if shard, blocks, err := s.Get(key); shard != 0 || len(blocks) != 0 || err != want {
		tb.Fatalf("Get(%d): %d, %d blocks, %v, want 0, none, %v", key, shard, len(blocks), err, want)
	}
	if bad, err := s.Bad(key); len(bad) != 0 || err != want {
		tb.Fatalf("Bad(%d): %v, %v, want none, %v", key, bad, err, want)
	}
}

func wantBad(tb testing.TB, s *store.Store, key uint64, want ...int) {
	tb.Helper()
	if bad, err := s.Bad(key); err != ok || !slices.Equal(bad, want) {
		tb.Fatalf("Bad(%d): %v, %v, want %v", key, bad, err, want)
	}
}

// state is what Shelves, Spoiled and Free tell.
type state struct {
	shelves []api.Shelf
	spoiled []int
	free    int
}

func stateOf(s *store.Store) state { return state{s.Shelves(), s.Spoiled(), s.Free()} }

func sameShelf(a, b api.Shelf) bool {
	return a.Key == b.Key && a.Shard == b.Shard && slices.Equal(a.Cells, b.Cells)
}

func (a state) is(b state) bool {
	return slices.EqualFunc(a.shelves, b.shelves, sameShelf) && slices.Equal(a.spoiled, b.spoiled) && a.free == b.free
}

func wantState(tb testing.TB, s *store.Store, free int, spoiled []int, shelves ...api.Shelf) {
	tb.Helper()
	wantSame(tb, s, state{shelves, spoiled, free})
}

func wantSame(tb testing.TB, s *store.Store, want state) {
	tb.Helper()
	if got := stateOf(s); !got.is(want) {
		tb.Fatalf("shelves, spoiled, free: %v, want %v", got, want)
	}
}

// greatNumbers are those at which sums and products wrap round.
func greatNumbers() []int {
	return []int{math.MinInt, math.MinInt + 1, math.MinInt / 2, -most, -4, -1, 0, 1, 3, 4, 6, most, most + 1, math.MaxInt/2 - 1, math.MaxInt / 2, math.MaxInt/2 + 1, math.MaxInt - 4, math.MaxInt - 3, math.MaxInt}
}

// The chapter's examples, line by line.

func TestExamples(t *testing.T) {
	d, s := newStore(t)
	wantPut(t, s, 7, 2, rights(7, 2, 3), ok)
	wantPut(t, s, 7, 2, nil, errThere)
	wantState(t, s, 17, nil, shelf(7, 2, 0, 1, 2))

	wantPut(t, s, 8, 0, rights(8, 0, 18), errFull)
	wantPut(t, s, 8, 0, [][]byte{of(0, 127)}, errShape)
	wantNoGet(t, s, 8, errNone)
	wantDrop(t, s, 8, errNone)
	wantState(t, s, 17, nil, shelf(7, 2, 0, 1, 2))

	wantMend(t, s, 7, 1, right(7, 1, 2), ok)
	wantState(t, s, 16, []int{1}, shelf(7, 2, 0, 3, 2))
	wantGet(t, s, 7, 2, rights(7, 2, 3))

	wantMend(t, s, 7, 3, right(7, 3, 2), errArg)
	wantDrop(t, s, 7, ok)
	wantState(t, s, 19, []int{1})
	wantState(t, open(t, d, small()), 19, []int{1})
}

// P17.1

// sectorsOf are a run's sectors, one by one.
func sectorsOf(r api.Run) map[int]bool {
	l := map[int]bool{}
	for i := range max(r.Count, 0) {
		l[r.At+i] = true
	}
	return l
}

// isThere is whether a run lies within a disk of so many sectors.
func isThere(r api.Run, sectors int) bool {
	return r.At >= 0 && r.At <= sectors && r.Count >= 0 && r.Count <= sectors && r.At+r.Count <= sectors
}

// mayBe is whether a region is one of a disk of so many sectors.
func mayBe(g api.Region, sectors int) bool {
	if !isThere(g.Data, sectors) || !isThere(g.Journal, sectors) || g.Journal.Count < 4 {
		return false
	}
	ofJournal := sectorsOf(g.Journal)
	for at := range sectorsOf(g.Data) {
		if ofJournal[at] {
			return false
		}
	}
	return true
}

// All regions of small disks, and those that lie a little outside.
func TestOpenRegions(t *testing.T) {
	for _, sectors := range []int{4, 5, 9} {
		d := newDisk(t, sectors)
		taken := 0
		for at := -2; at <= sectors+2; at++ {
			for count := -2; count <= sectors+3; count++ {
				for dataAt := -2; dataAt <= sectors+2; dataAt++ {
					for dataCount := -2; dataCount <= sectors+3; dataCount++ {
						g := region(at, count, dataAt, dataCount)
						if !mayBe(g, sectors) {
							wantRefused(t, d, g, errArg)
							continue
						}
						wantState(t, open(t, d, g), dataCount/2, nil)
						taken++
					}
				}
			}
		}
		if taken < 5 {
			t.Error("hardly any region was one:", taken)
		}
	}
}

func TestOpenGreatNumbers(t *testing.T) {
	const sectors = 10
	d := newDisk(t, sectors)
	numbers := greatNumbers()
	for _, at := range numbers {
		for _, count := range numbers {
			for _, dataAt := range numbers {
				for _, dataCount := range numbers {
					g := region(at, count, dataAt, dataCount)
					if mayBe(g, sectors) {
						wantState(t, open(t, d, g), dataCount/2, nil)
					} else {
						wantRefused(t, d, g, errArg)
					}
				}
			}
		}
	}
}

// The least overlap is one too much, also by a sector that neither the journal's areas nor the data's cells need.
func TestOpenOverlap(t *testing.T) {
	d := newDisk(t, 30)
	for _, g := range []api.Region{region(0, 4, 4, 26), region(26, 4, 0, 26), region(5, 5, 10, 3), region(5, 5, 0, 5), region(5, 5, 10, 0), region(5, 5, 5, 0), region(5, 5, 7, 0), region(5, 5, 30, 0), region(5, 5, 0, 0)} {
		wantState(t, open(t, d, g), g.Data.Count/2, nil)
	}
	for _, g := range []api.Region{region(0, 5, 4, 26), region(25, 5, 0, 26), region(5, 5, 9, 1), region(5, 5, 9, 20), region(5, 5, 2, 4), region(5, 5, 5, 1), region(5, 5, 6, 2), region(5, 5, 0, 30), region(0, 30, 7, 2), region(5, 5, 5, 5), region(5, 5, 30, 1), region(5, 5, 31, 0)} {
		wantRefused(t, d, g, errArg)
	}
}

func TestOpenErrorsInOrder(t *testing.T) {
	wantRefused(t, nil, small(), errNil)
	wantRefused(t, nil, region(0, 3, -1, 5), errNil)
	wantRefused(t, nil, api.Region{}, errNil)
	g := region(0, 8, 8, 8)
	d := withRecords(t, 16, g, []byte{9})
	wantRefused(t, d, g, errBroken)
	wantRefused(t, d, region(0, 8, 7, 8), errArg)
	wantRefused(t, d, region(0, 8, 8, 9), errArg)
	d.Kill()
	wantRefused(t, d, region(0, 8, 7, 8), errArg)
	wantRefused(t, d, region(0, 8, 8, 9), errArg)
	wantRefused(t, d, region(0, 8, 8, -1), errArg)
	wantRefused(t, d, region(0, 3, 8, 8), errArg)
	wantRefused(t, d, region(0, 17, 17, 0), errArg)
	wantRefused(t, d, g, errDead)
	d.Restart(nil)
	wantRefused(t, d, g, errBroken)
	wantState(t, open(t, d, region(8, 8, 0, 8)), 4, nil)
}

// A journal that is broken itself is told as such, whatever its records.
func TestOpenBrokenJournal(t *testing.T) {
	g := region(0, 8, 8, 8)
	d := withRecords(t, 16, g, givenUpRecord(0)[:7])
	wantRefused(t, d, g, errBroken)
	d = withRecords(t, 16, g, standingRecord(7, 2, 0))
	wantState(t, open(t, d, g), 3, nil, shelf(7, 2, 0))
	wantErr(t, "Rot", d.Rot(2, 0, 1), ok)
	wantRefused(t, d, g, errBroken)
	wantErr(t, "Rot", d.Rot(2, 0, 1), ok)
	wantErr(t, "Rot", d.Rot(2, 2, 1<<7), ok)
	wantRefused(t, d, g, errBroken)
}

func TestOpenWritesNothing(t *testing.T) {
	d := withRecords(t, 60, small(), standingRecord(7, 2, 0, 1), movedRecord(7, 1, 5))
	wantErr(t, "Write", d.Write(30, of(9, size)), ok)
	image := imageOf(t, d)
	d.Fuse(0)
	wantState(t, open(t, d, small()), 17, []int{1}, shelf(7, 2, 0, 5))
	wantRefused(t, d, region(0, 20, 19, 2), errArg)
	if d.Dead() || d.Waiting() != 1 || !bytes.Equal(imageOf(t, d), image) {
		t.Error("Open wrote something")
	}
}

// The records, one list after the other: in a region of 10 cells.
func TestRecords(t *testing.T) {
	stands := func(key uint64, shard byte, cells ...int) []byte { return standingRecord(key, shard, cells...) }
	great := uint64(math.MaxUint64)
	for i, c := range []struct {
		l       [][]byte
		shelves []api.Shelf
		spoiled []int
		free    int
	}{
		{nil, nil, nil, 10},
		{[][]byte{stands(7, 2)}, []api.Shelf{shelf(7, 2)}, nil, 10},
		{[][]byte{stands(7, 2, 3, 1, 9, 0)}, []api.Shelf{shelf(7, 2, 3, 1, 9, 0)}, nil, 6},
		{[][]byte{stands(great, 255, 9), stands(0, 0, 0), stands(1<<63, 1, 5)}, []api.Shelf{shelf(0, 0, 0), shelf(1<<63, 1, 5), shelf(great, 255, 9)}, nil, 7},
		{[][]byte{stands(0x0102030405060708, 9, 0, 1, 2, 3, 4, 5, 6, 7, 8, 9)}, []api.Shelf{shelf(0x0102030405060708, 9, 0, 1, 2, 3, 4, 5, 6, 7, 8, 9)}, nil, 0},
		{[][]byte{stands(7, 2, 3), givenUpRecord(7)}, nil, nil, 10},
		{[][]byte{stands(7, 2, 3), givenUpRecord(7), stands(7, 1, 3, 4)}, []api.Shelf{shelf(7, 1, 3, 4)}, nil, 8},
		{[][]byte{stands(7, 2), givenUpRecord(7), stands(8, 1, 3)}, []api.Shelf{shelf(8, 1, 3)}, nil, 9},
		{[][]byte{stands(7, 2, 3, 4), movedRecord(7, 0, 5)}, []api.Shelf{shelf(7, 2, 5, 4)}, []int{3}, 7},
		{[][]byte{stands(7, 2, 3, 4), movedRecord(7, 1, 9), movedRecord(7, 1, 0), movedRecord(7, 0, 1)}, []api.Shelf{shelf(7, 2, 1, 0)}, []int{3, 4, 9}, 5},
		{[][]byte{stands(7, 2, 3, 4), movedRecord(7, 0, 5), givenUpRecord(7), stands(8, 0, 5, 4)}, []api.Shelf{shelf(8, 0, 5, 4)}, []int{3}, 7},
		{[][]byte{spoiledRecord(0), spoiledRecord(9), spoiledRecord(4)}, nil, []int{0, 4, 9}, 7},
		{[][]byte{spoiledRecord(3), stands(7, 2, 2, 4), spoiledRecord(5)}, []api.Shelf{shelf(7, 2, 2, 4)}, []int{3, 5}, 6},
		{[][]byte{stands(7, 2, 3), givenUpRecord(7), spoiledRecord(3)}, nil, []int{3}, 9},
	} {
		g := region(0, 20, 20, 20)
		d := withRecords(t, 40, g, c.l...)
		t.Run(fmt.Sprint(i), func(t *testing.T) { wantState(t, open(t, d, g), c.free, c.spoiled, c.shelves...) })
	}
}

// In a region of 10 cells, and a sector more, in which 7 has the cells 0 and 1, and 4 is spoiled.
func TestRecordsThatDoNotGo(t *testing.T) {
	for i, l := range [][][]byte{
		{nil},
		{{0}},
		{{5, 0, 1}},
		{{255}},
		{append([]byte{0}, givenUpRecord(7)[1:]...)},
		{append([]byte{5}, givenUpRecord(7)[1:]...)},
		{append([]byte{0}, spoiledRecord(2)[1:]...)},
		{append([]byte{1 << 7}, givenUpRecord(7)[1:]...)},

		{standingRecord(7, 2)},
		{standingRecord(7, 2, 2)},
		{standingRecord(8, 2, 0)},
		{standingRecord(8, 2, 2, 3, 1)},
		{standingRecord(8, 2, 4)},
		{standingRecord(8, 2, 3, 4, 5)},
		{standingRecord(8, 2, 10)},
		{standingRecord(8, 2, 9, 10)},
		{standingRecord(8, 2, 65535)},
		{standingRecord(8, 2, 3, 3)},
		{standingRecord(8, 2, 3, 5, 3)},
		{standingRecord(8, 2, 3), standingRecord(8, 2)},
		{standingRecord(8, 2, 3), standingRecord(9, 2, 3)},
		{append(standingRecord(8, 2, 3), 0)},
		{append(standingRecord(8, 2, 3), 0, 5)},
		{append(standingRecord(8, 2), 0)},
		{standingRecord(8, 2, 3, 5)[:15]},
		{standingRecord(8, 2, 3, 5)[:14]},
		{standingRecord(8, 2, 3)[:12]},
		{standingRecord(8, 2)[:11]},
		{standingRecord(8, 2)[:10]},
		{standingRecord(8, 2)[:9]},
		{standingRecord(8, 2)[:1]},

		{givenUpRecord(8)},
		{givenUpRecord(0)},
		{givenUpRecord(7 << 56)},
		{givenUpRecord(7), givenUpRecord(7)},
		{append(givenUpRecord(7), 0)},
		{givenUpRecord(7)[:8]},
		{givenUpRecord(7)[:1]},

		{movedRecord(8, 0, 2)},
		{movedRecord(0, 0, 2)},
		{movedRecord(7, 2, 2)},
		{movedRecord(7, 256, 2)},
		{movedRecord(7, 65535, 2)},
		{movedRecord(7, 0, 0)},
		{movedRecord(7, 0, 1)},
		{movedRecord(7, 0, 4)},
		{movedRecord(7, 0, 10)},
		{movedRecord(7, 0, 65535)},
		{movedRecord(7, 0, 2), movedRecord(7, 0, 0)},
		{movedRecord(7, 0, 2), movedRecord(7, 1, 2)},
		{movedRecord(7, 0, 2), standingRecord(8, 0, 0)},
		{movedRecord(7, 0, 2), spoiledRecord(0)},
		{movedRecord(7, 0, 2), givenUpRecord(7), spoiledRecord(0)},
		{givenUpRecord(7), movedRecord(7, 0, 2)},
		{append(movedRecord(7, 0, 2), 0)},
		{movedRecord(7, 0, 2)[:12]},
		{movedRecord(7, 0, 2)[:11]},
		{movedRecord(7, 0, 2)[:9]},
		{movedRecord(7, 0, 2)[:1]},

		{spoiledRecord(0)},
		{spoiledRecord(4)},
		{spoiledRecord(10)},
		{spoiledRecord(65535)},
		{spoiledRecord(2), spoiledRecord(2)},
		{spoiledRecord(2), standingRecord(8, 0, 2)},
		{append(spoiledRecord(2), 0)},
		{spoiledRecord(2)[:2]},
		{spoiledRecord(2)[:1]},
	} {
		g := region(21, 20, 0, 21)
		l = append([][]byte{standingRecord(7, 2, 0, 1), spoiledRecord(4)}, l...)
		d := withRecords(t, 41, g, l...)
		t.Run(fmt.Sprint(i), func(t *testing.T) { wantRefused(t, d, g, errBroken) })
		// A record that does not go is told as such, though all behind it would go.
		d = withRecords(t, 41, g, append(l, standingRecord(99, 0))...)
		wantRefused(t, d, g, errBroken)
		wantState(t, open(t, withRecords(t, 41, g, l[:2]...), g), 7, []int{4}, shelf(7, 2, 0, 1))
	}
}

// A shelf has at most 4096 cells, though one more would be there.
func TestRecordOfManyCells(t *testing.T) {
	const cells = 4200
	g := region(0, 300, 300, 2*cells)
	var l []int
	for i := range mostBlocks {
		l = append(l, cells-1-i)
	}
	s := open(t, withRecords(t, 300+2*cells, g, standingRecord(7, 2, l...)), g)
	wantState(t, s, cells-mostBlocks, nil, shelf(7, 2, l...))
	l = append(l, cells-1-mostBlocks)
	wantRefused(t, withRecords(t, 300+2*cells, g, standingRecord(7, 2, l...)), g, errBroken)
}

// What the journal is told of each call.
func TestRecordsNoted(t *testing.T) {
	d, s := newStore(t)
	var l [][]byte
	for _, c := range []struct {
		do     func() api.Errno
		record []byte
	}{
		{func() api.Errno { return s.Put(0x0102030405060708, 9, rights(1, 9, 2)) }, []byte{1, 1, 2, 3, 4, 5, 6, 7, 8, 9, 0, 2, 0, 0, 0, 1}},
		{func() api.Errno { return s.Put(5, 255, nil) }, []byte{1, 0, 0, 0, 0, 0, 0, 0, 5, 255, 0, 0}},
		{func() api.Errno { return s.Mend(0x0102030405060708, 1, of(3, blockBytes)) }, []byte{3, 1, 2, 3, 4, 5, 6, 7, 8, 0, 1, 0, 2}},
		{func() api.Errno { return s.Drop(5) }, []byte{2, 0, 0, 0, 0, 0, 0, 0, 5}},
		{func() api.Errno { return s.Put(math.MaxUint64, 0, same(8, 1)) }, []byte{1, 255, 255, 255, 255, 255, 255, 255, 255, 0, 0, 1, 0, 3}},
		{func() api.Errno { return s.Drop(0x0102030405060708) }, []byte{2, 1, 2, 3, 4, 5, 6, 7, 8}},
	} {
		wantErr(t, "the call", c.do(), ok)
		l = append(l, c.record)
		wantRecords(t, d, small(), l...)
	}
	wantErr(t, "a call that is refused", s.Drop(5), errNone)
	wantRecords(t, d, small(), l...)
}

// P17.2

func TestPut(t *testing.T) {
	d, s := newStore(t)
	put(t, s, 7, 2, 3)
	put(t, s, 3, 0, 1)
	put(t, s, 9, 255, 0)
	wantPut(t, s, 5, 4, same(0xAB, 2), ok)
	wantState(t, s, 14, nil, shelf(3, 0, 3), shelf(5, 4, 4, 5), shelf(7, 2, 0, 1, 2), shelf(9, 255))
	wantGet(t, s, 7, 2, rights(7, 2, 3))
	wantGet(t, s, 3, 0, rights(3, 0, 1))
	wantGet(t, s, 9, 255, nil)
	wantGet(t, s, 5, 4, same(0xAB, 2))
	got, err := d.Read(20, 12)
	want := slices.Concat(append(append(rights(7, 2, 3), right(3, 0, 0)), same(0xAB, 2)...)...)
	if err != ok || !bytes.Equal(got, want) {
		t.Error("the cells do not hold the blocks")
	}
	if rest, _ := d.Read(32, 28); !bytes.Equal(rest, of(0, 28*size)) {
		t.Error("other cells were written")
	}
	if d.Waiting() != 0 {
		t.Error("something waits")
	}
	wantState(t, open(t, d, small()), 14, nil, s.Shelves()...)
}

// Where cells were given back, the first run that has as many is taken.
func TestPutTakesTheFirstOnes(t *testing.T) {
	_, s := newStore(t)
	for i, count := range []int{2, 1, 1, 1, 3, 1, 2} {
		put(t, s, uint64(i), 1, count)
	}
	for _, key := range []uint64{0, 2, 4, 6} {
		wantDrop(t, s, key, ok)
	}
	// Free are 0 1, 3, 5 6 7, and 9 to 19.
	put(t, s, 10, 1, 3)
	put(t, s, 11, 1, 1)
	put(t, s, 12, 1, 4)
	put(t, s, 13, 1, 1)
	put(t, s, 14, 1, 1)
	put(t, s, 15, 1, 1)
	wantState(t, s, 6, nil, shelf(1, 1, 2), shelf(3, 1, 4), shelf(5, 1, 8), shelf(10, 1, 5, 6, 7), shelf(11, 1, 0), shelf(12, 1, 9, 10, 11, 12), shelf(13, 1, 1), shelf(14, 1, 3), shelf(15, 1, 13))
}

// Cells that are free, but not side by side, are not enough; and of what is refused nothing is to be seen.
func TestPutFull(t *testing.T) {
	d, s := newStore(t)
	for key := range uint64(20) {
		put(t, s, key, 0, 1)
	}
	wantPut(t, s, 20, 0, same(1, 1), errFull)
	put(t, s, 21, 0, 0)
	for key := uint64(0); key < 20; key += 2 {
		wantDrop(t, s, key, ok)
	}
	image := imageOf(t, d)
	was := stateOf(s)
	d.Fuse(0)
	wantPut(t, s, 22, 0, same(1, 2), errFull)
	wantPut(t, s, 22, 0, same(1, 10), errFull)
	wantPut(t, s, 22, 0, same(1, 20), errFull)
	wantPut(t, s, 22, 0, same(1, mostBlocks), errFull)
	wantSame(t, s, was)
	d.Fuse(-1)
	if !bytes.Equal(image, imageOf(t, d)) {
		t.Error("something was written")
	}
	wantNoGet(t, s, 22, errNone)
	wantPut(t, s, 22, 0, same(1, 1), ok)
	wantGet(t, s, 22, 0, same(1, 1))
}

func TestPutShape(t *testing.T) {
	_, s := newStore(t)
	for _, n := range []int{0, 1, 64, 96, 127, 129, 192, 256, 1 << 17} {
		for _, l := range [][][]byte{{of(0, n)}, append(rights(8, 0, 2), of(0, n)), append([][]byte{of(0, n)}, rights(8, 0, 2)...), {of(0, blockBytes), of(0, n), of(0, blockBytes)}, {of(0, n), of(0, 256-min(n, 256))}} {
			wantPut(t, s, 8, 0, l, errShape)
		}
	}
	wantPut(t, s, 8, 0, [][]byte{nil}, errShape)
	wantPut(t, s, 8, 0, make([][]byte, mostBlocks), errShape)
	wantState(t, s, 20, nil)
	wantNoGet(t, s, 8, errNone)
}

// Of several errors that one is answered which the chapter names first, and none of them needs the disk.
func TestPutErrorsInOrder(t *testing.T) {
	d, s := newStore(t)
	put(t, s, 7, 0, 2)
	was := stateOf(s)
	d.Kill()
	wantPut(t, s, 7, 0, make([][]byte, mostBlocks+1), errLong)
	wantPut(t, s, 8, 0, same(0, mostBlocks+1), errLong)
	wantPut(t, s, 7, 0, make([][]byte, mostBlocks), errShape)
	wantPut(t, s, 7, 0, append(same(0, 30), nil), errShape)
	wantPut(t, s, 8, 0, append(same(0, 30), nil), errShape)
	wantPut(t, s, 7, 0, same(0, mostBlocks), errThere)
	wantPut(t, s, 7, 0, same(0, 1), errThere)
	wantPut(t, s, 7, 0, nil, errThere)
	wantPut(t, s, 8, 0, same(0, mostBlocks), errFull)
	wantPut(t, s, 8, 0, same(0, 19), errFull)
	wantSame(t, s, was)
	d.Restart(nil)
	put(t, s, 8, 0, 18)
}

func TestPutMost(t *testing.T) {
	const cells = 2*mostBlocks + 5
	g := region(1, 600, 601, 2*cells)
	d := newDisk(t, 602+2*cells)
	s := open(t, d, g)
	l := rights(7, 2, mostBlocks)
	wantPut(t, s, 7, 2, append(l, right(7, mostBlocks, 2)), errLong)
	wantState(t, s, cells, nil)
	wantPut(t, s, 7, 2, l, ok)
	put(t, s, 8, 1, mostBlocks)
	wantPut(t, s, 9, 1, same(0, 6), errFull)
	put(t, s, 9, 1, 5)
	for _, s := range []*store.Store{s, open(t, d, g)} {
		if s.Free() != 0 {
			t.Error("Free", s.Free())
		}
		wantGet(t, s, 7, 2, l)
		wantGet(t, s, 8, 1, rights(8, 1, mostBlocks))
		wantGet(t, s, 9, 1, rights(9, 1, 5))
		wantBad(t, s, 8)
	}
	wantDrop(t, s, 8, ok)
	wantMend(t, s, 7, mostBlocks-1, l[mostBlocks-1], ok)
	wantMend(t, s, 7, mostBlocks, l[0], errArg)
	wantGet(t, s, 7, 2, l)
	put(t, s, 8, 1, 5)
	if cells := s.Shelves()[1].Cells; s.Free() != mostBlocks-6 || cells[0] != mostBlocks+1 {
		t.Error("Free", s.Free(), "cells", cells)
	}
	wantDrop(t, s, 8, ok)
	wantDrop(t, s, 9, ok)
	put(t, s, 8, 1, mostBlocks-1)
	put(t, s, 9, 1, 5)
	wantSame(t, open(t, d, g), stateOf(s))
}

// The greatest disk: the last cells' numbers need both of their bytes.
func TestGreatestDisk(t *testing.T) {
	g := region(most-2000, 2000, 0, most-2000)
	d := newDisk(t, most)
	s := open(t, d, g)
	cells := (most - 2000) / 2
	wantState(t, s, cells, nil)
	for key := range uint64(7) {
		put(t, s, key, 1, mostBlocks)
	}
	put(t, s, 100, 3, cells-7*mostBlocks-2)
	wantMend(t, s, 100, 5, right(100, 5, 3), ok)
	wantMend(t, s, 3, 1, right(3, 1, 1), ok)
	wantMend(t, s, 3, 1, right(3, 1, 1), errFull)
	anew := open(t, d, g)
	wantSame(t, anew, stateOf(s))
	if l := anew.Shelves(); l[3].Cells[1] != cells-1 || l[7].Cells[5] != cells-2 {
		t.Error("cells", l[3].Cells[1], l[7].Cells[5])
	}
	if l := anew.Spoiled(); !slices.Equal(l, []int{3*mostBlocks + 1, 7*mostBlocks + 5}) {
		t.Error("spoiled", l)
	}
	wantBad(t, anew, 3)
	wantBad(t, anew, 100)
	wantGet(t, anew, 100, 3, rights(100, 3, cells-7*mostBlocks-2))
}

// Put of blocks makes six calls of the disk, of none four; the first one of them alone is of the data.
func TestPutDiskCalls(t *testing.T) {
	for count, calls := range map[int]int{0: 4, 1: 6, 5: 6} {
		for fuse := range calls + 2 {
			d, s := newStore(t)
			put(t, s, 7, 1, 2)
			d.Fuse(fuse)
			want := errDead
			if fuse >= calls {
				want = ok
			}
			wantPut(t, s, 8, 1, rights(8, 1, count), want)
			if want == ok {
				continue
			}
			waits := d.Waiting()
			d.Restart(nil)
			cells, _ := d.Read(24, 10)
			written := bytes.Equal(cells[:count*blockBytes], slices.Concat(rights(8, 1, count)...))
			switch at := fuse + 6 - calls; at {
			case 0, 2, 4:
				if waits != 0 || written != (at > 0) {
					t.Error("at", at, "wait", waits, "written", written)
				}
			case 1:
				if waits != 2*count || written {
					t.Error("at", at, "wait", waits, "written", written)
				}
			case 3, 5:
				if waits != 1 || !written {
					t.Error("at", at, "wait", waits, "written", written)
				}
			}
		}
	}
}

// P17.3

func TestGet(t *testing.T) {
	d, s := newStore(t)
	for _, key := range []uint64{0, 1, 7, math.MaxUint64} {
		wantNoGet(t, s, key, errNone)
	}
	put(t, s, 0, 0, 2)
	put(t, s, math.MaxUint64, 255, 3)
	wantGet(t, s, 0, 0, rights(0, 0, 2))
	wantGet(t, s, math.MaxUint64, 255, rights(math.MaxUint64, 255, 3))
	wantNoGet(t, s, 1, errNone)
	wantNoGet(t, s, 1<<32, errNone)
	// Blocks are told as they read, rotted or waiting.
	wantErr(t, "Rot", d.Rot(22, 5, 3), ok)
	wantErr(t, "Write", d.Write(25, of(9, size)), ok)
	l := rights(0, 0, 2)
	l[1][5] ^= 3
	wantGet(t, s, 0, 0, l)
	l = rights(math.MaxUint64, 255, 3)
	copy(l[0][size:], of(9, size))
	wantGet(t, s, math.MaxUint64, 255, l)
	wantDrop(t, s, 0, ok)
	wantNoGet(t, s, 0, errNone)
}

// Any bit of any block that rots is told, and no other one.
func TestBadEveryByte(t *testing.T) {
	d, s := newStore(t)
	put(t, s, 6, 1, 2)
	put(t, s, 7, 2, 3)
	for stripe := range 3 {
		for place := range blockBytes {
			by := byte(1) << (place % 8)
			sector := 20 + 2*(2+stripe) + place/size
			wantErr(t, "Rot", d.Rot(sector, place%size, by), ok)
			wantBad(t, s, 7, stripe)
			wantBad(t, s, 6)
			wantErr(t, "Rot", d.Rot(sector, place%size, by), ok)
			wantBad(t, s, 7)
		}
	}
	wantErr(t, "Rot", d.Rot(24, 0, 255), ok)
	wantErr(t, "Rot", d.Rot(29, 63, 255), ok)
	wantBad(t, s, 7, 0, 2)
	wantErr(t, "Rot", d.Rot(26, 40, 1), ok)
	wantBad(t, s, 7, 0, 1, 2)
	wantErr(t, "Rot", d.Rot(20, 40, 1), ok)
	wantBad(t, s, 6, 0)
}

// A block that is right elsewhere is bad.
func TestBadElsewhere(t *testing.T) {
	_, s := newStore(t)
	wantPut(t, s, 7, 2, [][]byte{right(7, 0, 2), right(7, 0, 2), right(7, 2, 1), right(8, 3, 2), right(7, 4, 2), of(0, blockBytes), right(7, 6+1<<16, 2), right(7+1<<32, 7, 2), right(7, 8, 2)}, ok)
	wantBad(t, s, 7, 1, 2, 3, 5, 6, 7)
	put(t, s, 9, 0, 0)
	wantBad(t, s, 9)
	wantPut(t, s, 10, 1, same(7, 3), ok)
	wantBad(t, s, 10, 0, 1, 2)
	wantMend(t, s, 10, 1, right(10, 1, 1), ok)
	wantBad(t, s, 10, 0, 2)
	wantMend(t, s, 10, 0, right(10, 1, 1), ok)
	wantBad(t, s, 10, 0, 2)
	// All bytes of the key count.
	put(t, s, 7<<40, 3, 1)
	wantBad(t, s, 7<<40)
	wantPut(t, s, 8<<40, 3, rights(8<<40+1<<63, 3, 1), ok)
	wantBad(t, s, 8<<40, 0)
	// The shard is the shelf's own.
	wantPut(t, s, 11, 4, rights(11, 5, 2), ok)
	wantBad(t, s, 11, 0, 1)
}

// P17.4

func TestDrop(t *testing.T) {
	d, s := newStore(t)
	for _, key := range []uint64{0, 7, math.MaxUint64} {
		wantDrop(t, s, key, errNone)
	}
	put(t, s, 7, 2, 3)
	put(t, s, 8, 1, 4)
	put(t, s, 9, 0, 0)
	wantMend(t, s, 8, 2, right(8, 2, 1), ok)
	wantDrop(t, s, 7, ok)
	wantState(t, s, 15, []int{5}, shelf(8, 1, 3, 4, 7, 6), shelf(9, 0))
	wantDrop(t, s, 7, errNone)
	wantNoGet(t, s, 7, errNone)
	wantMend(t, s, 7, 0, right(7, 0, 2), errNone)
	wantDrop(t, s, 8, ok)
	wantState(t, s, 19, []int{5}, shelf(9, 0))
	wantDrop(t, s, 9, ok)
	wantState(t, s, 19, []int{5})
	wantState(t, open(t, d, small()), 19, []int{5})
	put(t, s, 7, 5, 5)
	wantState(t, s, 14, []int{5}, shelf(7, 5, 0, 1, 2, 3, 4))
	put(t, s, 8, 5, 1)
	wantState(t, s, 13, []int{5}, shelf(7, 5, 0, 1, 2, 3, 4), shelf(8, 5, 6))
}

// Drop makes the journal's four calls of the disk alone, and Mend six.
func TestDropAndMendDiskCalls(t *testing.T) {
	for fuse := range 8 {
		for _, mends := range []bool{false, true} {
			d, s := newStore(t)
			put(t, s, 7, 1, 2)
			was := stateOf(s)
			d.Fuse(fuse)
			calls, err := 4, ok
			if mends {
				calls, err = 6, s.Mend(7, 1, of(5, blockBytes))
			} else {
				err = s.Drop(7)
			}
			if fuse >= calls {
				wantErr(t, "the call", err, ok)
				continue
			}
			wantErr(t, "the call", err, errDead)
			wantSame(t, s, was)
		}
	}
}

// P17.5

func TestMend(t *testing.T) {
	d, s := newStore(t)
	put(t, s, 7, 2, 3)
	put(t, s, 8, 1, 2)
	want := rights(7, 2, 3)
	wantMend(t, s, 7, 2, want[2], ok)
	wantState(t, s, 14, []int{2}, shelf(7, 2, 0, 1, 5), shelf(8, 1, 3, 4))
	wantGet(t, s, 7, 2, want)
	// Any bytes may be written, as often as cells are free; each time the one in which they lay is spoiled.
	want[0] = of(0xEE, blockBytes)
	wantMend(t, s, 7, 0, want[0], ok)
	wantMend(t, s, 7, 2, want[2], ok)
	wantState(t, s, 12, []int{0, 2, 5}, shelf(7, 2, 6, 1, 7), shelf(8, 1, 3, 4))
	wantGet(t, s, 7, 2, want)
	wantGet(t, s, 8, 1, rights(8, 1, 2))
	got, _ := d.Read(32, 4)
	if !bytes.Equal(got, slices.Concat(want[0], want[2])) {
		t.Error("the cells do not hold the blocks")
	}
	if old, _ := d.Read(20, 2); !bytes.Equal(old, right(7, 0, 2)) {
		t.Error("the cell in which the block lay was written")
	}
	anew := open(t, d, small())
	wantSame(t, anew, stateOf(s))
	wantGet(t, anew, 7, 2, want)
}

// The first free cell is taken, also one that was given back.
func TestMendTakesTheFirstOne(t *testing.T) {
	_, s := newStore(t)
	for key := range uint64(5) {
		put(t, s, key, 0, 2)
	}
	wantDrop(t, s, 1, ok)
	wantDrop(t, s, 3, ok)
	wantMend(t, s, 4, 1, right(4, 1, 0), ok)
	wantMend(t, s, 2, 0, right(2, 0, 0), ok)
	wantMend(t, s, 2, 0, right(2, 0, 0), ok)
	wantMend(t, s, 0, 0, right(0, 0, 0), ok)
	wantState(t, s, 10, []int{0, 3, 4, 9}, shelf(0, 0, 7, 1), shelf(2, 0, 6, 5), shelf(4, 0, 8, 2))
	wantBad(t, s, 0)
	wantBad(t, s, 2)
	wantBad(t, s, 4)
}

func TestMendErrorsInOrder(t *testing.T) {
	d, s := newStore(t)
	wantMend(t, s, 7, 0, right(7, 0, 2), errNone)
	put(t, s, 7, 2, 3)
	put(t, s, 8, 0, 0)
	put(t, s, 9, 0, 17)
	was := stateOf(s)
	d.Kill()
	for _, stripe := range greatNumbers() {
		for _, n := range []int{0, 127, 128} {
			wantMend(t, s, 6, stripe, of(0, n), errNone)
			wantMend(t, s, 8, stripe, of(0, n), errArg)
			if stripe < 0 || stripe > 2 {
				wantMend(t, s, 7, stripe, of(0, n), errArg)
			}
		}
	}
	for stripe := range 3 {
		for _, n := range []int{0, 1, 64, 96, 127, 129, 192, 256} {
			wantMend(t, s, 7, stripe, of(0, n), errShape)
		}
		wantMend(t, s, 7, stripe, nil, errShape)
		wantMend(t, s, 7, stripe, of(0, blockBytes), errFull)
	}
	wantSame(t, s, was)
	d.Restart(nil)
	wantGet(t, s, 7, 2, rights(7, 2, 3))
}

// Cells are spoiled one by one, till none is free any more.
func TestMendTillFull(t *testing.T) {
	d, s := newStore(t)
	put(t, s, 7, 2, 2)
	for i := range 18 {
		wantMend(t, s, 7, i%2, right(7, i%2, 2), ok)
		if s.Free() != 17-i || len(s.Spoiled()) != i+1 {
			t.Fatal(i, s.Free(), s.Spoiled())
		}
	}
	wantMend(t, s, 7, 0, right(7, 0, 2), errFull)
	wantState(t, s, 0, []int{0, 1, 2, 3, 4, 5, 6, 7, 8, 9, 10, 11, 12, 13, 14, 15, 16, 17}, shelf(7, 2, 18, 19))
	wantBad(t, s, 7)
	wantDrop(t, s, 7, ok)
	anew := open(t, d, small())
	if anew.Free() != 2 {
		t.Error("Free", anew.Free())
	}
	put(t, anew, 8, 1, 2)
	wantBad(t, anew, 8)
	wantMend(t, anew, 8, 0, right(8, 0, 1), errFull)
}

// P17.6

func TestShelvesRise(t *testing.T) {
	_, s := newStore(t)
	for _, key := range []uint64{1 << 63, 3, math.MaxUint64, 0, 1 << 32, 256, 2, 255} {
		put(t, s, key, byte(key), 1)
	}
	wantState(t, s, 12, nil, shelf(0, 0, 3), shelf(2, 2, 6), shelf(3, 3, 1), shelf(255, 255, 7), shelf(256, 0, 5), shelf(1<<32, 0, 4), shelf(1<<63, 0, 0), shelf(math.MaxUint64, 255, 2))
	for _, key := range []uint64{255, 1 << 63, 0, math.MaxUint64} {
		wantMend(t, s, key, 0, right(key, 0, byte(key)), ok)
	}
	wantState(t, s, 8, []int{0, 2, 3, 7}, shelf(0, 0, 10), shelf(2, 2, 6), shelf(3, 3, 1), shelf(255, 255, 8), shelf(256, 0, 5), shelf(1<<32, 0, 4), shelf(1<<63, 0, 9), shelf(math.MaxUint64, 255, 11))
}

func TestNoCells(t *testing.T) {
	for _, count := range []int{0, 1} {
		g := region(1, 8, 9, count)
		d := newDisk(t, 10)
		s := open(t, d, g)
		wantPut(t, s, 7, 1, same(0, 1), errFull)
		put(t, s, 7, 1, 0)
		wantGet(t, s, 7, 1, nil)
		wantBad(t, s, 7)
		wantMend(t, s, 7, 0, of(0, blockBytes), errArg)
		wantState(t, open(t, d, g), 0, nil, shelf(7, 1))
		wantDrop(t, s, 7, ok)
		wantState(t, open(t, d, g), 0, nil)
	}
}

// What a sector more than the cells need is, does not matter, and it is never written.
func TestSectorMore(t *testing.T) {
	g := region(7, 20, 0, 7)
	d := newDisk(t, 27)
	wantErr(t, "Write", d.Write(6, of(0xCC, size)), ok)
	wantErr(t, "Sync", d.Sync(), ok)
	s := open(t, d, g)
	wantPut(t, s, 7, 1, same(1, 4), errFull)
	put(t, s, 7, 1, 2)
	wantMend(t, s, 7, 0, right(7, 0, 1), ok)
	wantMend(t, s, 7, 1, right(7, 1, 1), errFull)
	wantState(t, s, 0, []int{0}, shelf(7, 1, 2, 1))
	if b, _ := d.Read(6, 1); !bytes.Equal(b, of(0xCC, size)) {
		t.Error("the sector more was written")
	}
}

func TestNil(t *testing.T) {
	var s *store.Store
	wantState(t, s, 0, nil)
	wantPut(t, s, 7, 0, nil, errNil)
	wantPut(t, s, 7, 0, make([][]byte, mostBlocks+1), errNil)
	wantNoGet(t, s, 7, errNil)
	wantDrop(t, s, 7, errNil)
	wantMend(t, s, 7, -1, nil, errNil)
	wantMend(t, s, 7, 0, of(0, blockBytes), errNil)
}

// A store that answered ErrDead

// wantDead holds all calls of a store that answer an Errno to answer ErrDead, ahead of anything else.
func wantDead(tb testing.TB, s *store.Store) {
	tb.Helper()
	for _, key := range []uint64{7, 8, 99} {
		wantNoGet(tb, s, key, errDead)
		wantPut(tb, s, key, 0, nil, errDead)
		wantPut(tb, s, key, 0, same(0, 1), errDead)
		wantPut(tb, s, key, 0, make([][]byte, mostBlocks+1), errDead)
		wantPut(tb, s, key, 0, make([][]byte, 3), errDead)
		wantPut(tb, s, key, 0, same(0, 100), errDead)
		wantDrop(tb, s, key, errDead)
		wantMend(tb, s, key, 0, of(0, blockBytes), errDead)
		wantMend(tb, s, key, 0, nil, errDead)
		wantMend(tb, s, key, -1, nil, errDead)
	}
}

// Each call on a disk without power, or whose power goes, makes the store answer so for good; nothing is changed of it.
func TestDeadForGood(t *testing.T) {
	calls := map[string]func(*store.Store) api.Errno{
		"Put":         func(s *store.Store) api.Errno { return s.Put(9, 1, rights(9, 1, 2)) },
		"Put of none": func(s *store.Store) api.Errno { return s.Put(9, 1, nil) },
		"Get":         func(s *store.Store) api.Errno { _, _, e := s.Get(7); return e },
		"Bad":         func(s *store.Store) api.Errno { _, e := s.Bad(7); return e },
		"Drop":        func(s *store.Store) api.Errno { return s.Drop(7) },
		"Mend":        func(s *store.Store) api.Errno { return s.Mend(7, 1, right(7, 1, 2)) },
	}
	for name, call := range calls {
		for fuse := -1; fuse < 6; fuse++ {
			d, s := newStore(t)
			put(t, s, 7, 2, 3)
			put(t, s, 8, 1, 1)
			wantMend(t, s, 7, 0, right(7, 0, 2), ok)
			was := stateOf(s)
			if fuse < 0 {
				d.Kill()
			} else {
				d.Fuse(fuse)
			}
			if err := call(s); err == ok {
				continue
			} else if err != errDead {
				t.Fatal(name, fuse, err)
			}
			wantDead(t, s)
			wantSame(t, s, was)
			d.Restart(nil)
			wantDead(t, s)
			wantSame(t, s, was)
			wantBad(t, open(t, d, small()), 7)
		}
	}
}

// A disk that lost its power, and has it again, does no harm to a store that did not meet that.
func TestPowerThatNobodyMissed(t *testing.T) {
	d, s := newStore(t)
	put(t, s, 7, 2, 3)
	d.Kill()
	wantNoGet(t, s, 8, errNone)
	wantDrop(t, s, 8, errNone)
	wantPut(t, s, 7, 2, nil, errThere)
	wantPut(t, s, 8, 2, same(0, 18), errFull)
	wantMend(t, s, 7, 3, nil, errArg)
	wantState(t, s, 17, nil, shelf(7, 2, 0, 1, 2))
	d.Restart(nil)
	wantGet(t, s, 7, 2, rights(7, 2, 3))
	put(t, s, 8, 1, 2)
	wantMend(t, s, 7, 0, right(7, 0, 2), ok)
	wantDrop(t, s, 8, ok)
	wantState(t, open(t, d, small()), 16, []int{0}, shelf(7, 2, 5, 1, 2))
}

// A shelf of no blocks is told without the disk.
func TestGetOfNoBlocksWithoutPower(t *testing.T) {
	d, s := newStore(t)
	put(t, s, 7, 2, 0)
	d.Kill()
	wantGet(t, s, 7, 2, nil)
	wantBad(t, s, 7)
	wantDrop(t, s, 7, errDead)
	wantDead(t, s)
}

// To note

// A journal that is full is made anew of what stands: the shelves by rising keys, then the spoiled cells, rising; then comes the record.
func TestRewrite(t *testing.T) {
	g := region(0, 6, 6, 40)
	d := newDisk(t, 46)
	s := open(t, d, g)
	put(t, s, 9, 3, 2)                               // 16 and 2 bytes of 128
	put(t, s, 1<<40, 1, 1)                           // 14 and 2
	wantMend(t, s, 9, 1, right(9, 1, 3), ok)         // 13 and 2
	wantMend(t, s, 9, 0, right(9, 0, 3), ok)         // 13 and 2
	put(t, s, 4, 0, 0)                               // 12 and 2
	wantDrop(t, s, 4, ok)                            // 9 and 2
	wantMend(t, s, 1<<40, 0, right(1<<40, 0, 1), ok) // 13 and 2: 104 in all
	put(t, s, 3, 8, 3)                               // 18 and 2: 124
	wantRecords(t, d, g, standingRecord(9, 3, 0, 1), standingRecord(1<<40, 1, 2), movedRecord(9, 1, 3), movedRecord(9, 0, 4), standingRecord(4, 0), givenUpRecord(4), movedRecord(1<<40, 0, 5), standingRecord(3, 8, 6, 7, 8))
	wantMend(t, s, 3, 1, right(3, 1, 8), ok)
	wantRecords(t, d, g, standingRecord(3, 8, 6, 7, 8), standingRecord(9, 3, 4, 3), standingRecord(1<<40, 1, 5), spoiledRecord(0), spoiledRecord(1), spoiledRecord(2), movedRecord(3, 1, 9))
	want := []api.Shelf{shelf(3, 8, 6, 9, 8), shelf(9, 3, 4, 3), shelf(1<<40, 1, 5)}
	wantState(t, s, 10, []int{0, 1, 2, 7}, want...)
	wantState(t, open(t, d, g), 10, []int{0, 1, 2, 7}, want...)
	for _, shelf := range want {
		wantGet(t, s, shelf.Key, shelf.Shard, rights(shelf.Key, shelf.Shard, len(shelf.Cells)))
	}
}

// A record that just fits behind the others is added, one byte more makes the journal anew; and what does not fit then, either, is refused.
func TestRewriteAtTheEdge(t *testing.T) {
	g := region(0, 4, 4, 40) // 64 bytes of room
	for _, c := range []struct {
		count, records int
		want           api.Errno
	}{{4, 4, ok}, {5, 2, ok}, {17, 2, ok}, {18, 1, errFull}} {
		d := newDisk(t, 44)
		s := open(t, d, g)
		put(t, s, 2, 0, 1)    // 16 bytes
		put(t, s, 5, 0, 0)    // 14
		wantDrop(t, s, 5, ok) // 11: 23 are left; made anew, 48 are
		wantPut(t, s, 6, 0, rights(6, 0, c.count), c.want)
		j, err := journal.Open(d, g.Journal)
		wantErr(t, "journal.Open", err, ok)
		if len(j.Records()) != c.records {
			t.Error(c, "records", j.Records())
		}
		if c.want == ok {
			wantGet(t, s, 6, 0, rights(6, 0, c.count))
		} else {
			wantState(t, s, 19, nil, shelf(2, 0, 0))
		}
		wantSame(t, open(t, d, g), stateOf(s))
	}
}

// crowded is a store whose journal has no room for a record, though it were made anew: 64 bytes of shelves' records stand in 64.
func crowded(tb testing.TB) (*disk.Disk, *store.Store, api.Region) {
	tb.Helper()
	g := region(0, 4, 4, 40)
	d := newDisk(tb, 44)
	s := open(tb, d, g)
	put(tb, s, 1, 0, 3)
	put(tb, s, 2, 5, 8)
	put(tb, s, 3, 0, 0)
	return d, s, g
}

// A journal that stays full: each call is refused, cells that were taken are free again, and nothing is changed of the store.
func TestJournalStaysFull(t *testing.T) {
	for name, call := range map[string]func(*store.Store) api.Errno{
		"Put":         func(s *store.Store) api.Errno { return s.Put(4, 0, rights(4, 0, 2)) },
		"Put of none": func(s *store.Store) api.Errno { return s.Put(4, 0, nil) },
		"Put of all":  func(s *store.Store) api.Errno { return s.Put(4, 0, same(9, 9)) },
		"Drop":        func(s *store.Store) api.Errno { return s.Drop(2) },
		"Mend":        func(s *store.Store) api.Errno { return s.Mend(2, 7, of(6, blockBytes)) },
	} {
		d, s, g := crowded(t)
		was := stateOf(s)
		for range 3 {
			j, _ := journal.Open(d, g.Journal)
			count := j.Count()
			wantErr(t, name, call(s), errFull)
			wantSame(t, s, was)
			wantSame(t, open(t, d, g), was)
			wantBad(t, s, 1)
			wantBad(t, s, 2)
			// The journal was made anew all the same, once.
			j, _ = journal.Open(d, g.Journal)
			if j.Count() != count+1 || d.Waiting() != 0 {
				t.Errorf("%s: count %d, was %d, %d wait", name, j.Count(), count, d.Waiting())
			}
			wantNoGet(t, s, 4, errNone)
		}
	}
}

// Spoiled cells take room in the journal for good, so a store that is mended again and again has none at last, though cells are free.
func TestJournalFullOfSpoiledCells(t *testing.T) {
	g := region(0, 4, 4, 40)
	d := newDisk(t, 44)
	s := open(t, d, g)
	put(t, s, 1, 0, 13)                      // 40 bytes of 64
	wantMend(t, s, 1, 0, right(1, 0, 0), ok) // 15
	wantMend(t, s, 1, 1, right(1, 1, 0), ok) // made anew: 40, 5 and 15
	l := []int{13, 14, 2, 3, 4, 5, 6, 7, 8, 9, 10, 11, 12}
	wantRecords(t, d, g, standingRecord(1, 0, append([]int{13, 1}, l[2:]...)...), spoiledRecord(0), movedRecord(1, 1, 14))
	for range 2 {
		wantMend(t, s, 1, 2, right(1, 2, 0), errFull)
		wantState(t, s, 5, []int{0, 1}, shelf(1, 0, l...))
		wantRecords(t, d, g, standingRecord(1, 0, l...), spoiledRecord(0), spoiledRecord(1))
	}
	wantDrop(t, s, 1, ok)
	wantState(t, open(t, d, g), 18, []int{0, 1})
}

func TestManyTimes(t *testing.T) {
	g := region(3, 7, 10, 33)
	d := newDisk(t, 43)
	s := open(t, d, g)
	for i := range uint64(400) {
		put(t, s, i, byte(i), int(i%5))
		wantGet(t, s, i, byte(i), rights(i, byte(i), int(i%5)))
		if i >= 2 {
			wantDrop(t, s, i-2, ok)
		}
		wantSame(t, open(t, d, g), stateOf(s))
	}
}

// The chapter told over again, with a disk of its own.

type model struct {
	d       *disk.Disk
	g       api.Region
	j       *journal.Journal
	shelves map[uint64]api.Shelf
	spoiled map[int]bool
	dead    bool
}

func (m *model) cells() int { return m.g.Data.Count / 2 }

func (m *model) isFree(cell int) bool {
	if cell < 0 || cell >= m.cells() || m.spoiled[cell] {
		return false
	}
	for _, s := range m.shelves {
		if slices.Contains(s.Cells, cell) {
			return false
		}
	}
	return true
}

// first is the first of so many free cells side by side, or -1.
func (m *model) first(count int) int {
	beside := 0
	for cell := range m.cells() {
		beside++
		if !m.isFree(cell) {
			beside = 0
		}
		if beside == count {
			return cell - count + 1
		}
	}
	return -1
}

func (m *model) state() state {
	x := state{spoiled: slices.Sorted(maps.Keys(m.spoiled))}
	for _, key := range slices.Sorted(maps.Keys(m.shelves)) {
		x.shelves = append(x.shelves, m.shelves[key])
	}
	for cell := range m.cells() {
		if m.isFree(cell) {
			x.free++
		}
	}
	return x
}

// goes does what a record says, if it goes.
func (m *model) goes(r []byte) bool {
	if len(r) == 0 {
		return false
	}
	switch r[0] {
	case 1:
		return m.stands(r)
	case 2:
		if len(r) != 9 {
			return false
		}
		key := binary.BigEndian.Uint64(r[1:])
		_, there := m.shelves[key]
		delete(m.shelves, key)
		return there
	case 3:
		return m.moves(r)
	case 4:
		if len(r) != 3 {
			return false
		}
		cell := int(r[1])*256 + int(r[2])
		if !m.isFree(cell) {
			return false
		}
		m.spoiled[cell] = true
		return true
	}
	return false
}

func (m *model) stands(r []byte) bool {
	if len(r) < 12 {
		return false
	}
	key, count := binary.BigEndian.Uint64(r[1:]), int(binary.BigEndian.Uint16(r[10:]))
	if _, there := m.shelves[key]; there || count > mostBlocks || len(r) != 12+2*count {
		return false
	}
	var cells []int
	for i := range count {
		cell := int(binary.BigEndian.Uint16(r[12+2*i:]))
		if !m.isFree(cell) || slices.Contains(cells, cell) {
			return false
		}
		cells = append(cells, cell)
	}
	m.shelves[key] = shelf(key, r[9], cells...)
	return true
}

func (m *model) moves(r []byte) bool {
	if len(r) != 13 {
		return false
	}
	key, stripe, cell := binary.BigEndian.Uint64(r[1:]), int(binary.BigEndian.Uint16(r[9:])), int(binary.BigEndian.Uint16(r[11:]))
	s, there := m.shelves[key]
	if !there || stripe >= len(s.Cells) || !m.isFree(cell) {
		return false
	}
	m.spoiled[s.Cells[stripe]] = true
	s.Cells[stripe] = cell
	return true
}

// modelOf is P17.1, but for regions that may not be.
func modelOf(d *disk.Disk, g api.Region) (*model, api.Errno) {
	j, err := journal.Open(d, g.Journal)
	if err != ok {
		return nil, err
	}
	m := &model{d: d, g: g, j: j, shelves: map[uint64]api.Shelf{}, spoiled: map[int]bool{}}
	for _, r := range j.Records() {
		if !m.goes(r) {
			return nil, errBroken
		}
	}
	return m, ok
}

func (m *model) note(r []byte) api.Errno {
	err := m.j.Add([][]byte{r})
	if err == errFull {
		var l [][]byte
		x := m.state()
		for _, s := range x.shelves {
			l = append(l, standingRecord(s.Key, s.Shard, s.Cells...))
		}
		for _, cell := range x.spoiled {
			l = append(l, spoiledRecord(cell))
		}
		if err = m.j.Rewrite(l); err == ok {
			err = m.j.Add([][]byte{r})
		}
	}
	if err == ok && !m.goes(r) {
		panic("a record was noted that does not go")
	}
	return err
}

// writes writes blocks, syncs, and notes a record.
func (m *model) writes(cell int, b []byte, r []byte) api.Errno {
	if len(b) > 0 {
		if err := m.d.Write(m.g.Data.At+2*cell, b); err != ok {
			return err
		}
		if err := m.d.Sync(); err != ok {
			return err
		}
	}
	return m.note(r)
}

func (m *model) put(key uint64, shard uint8, blocks [][]byte) api.Errno {
	if len(blocks) > mostBlocks {
		return errLong
	}
	for _, b := range blocks {
		if len(b) != 128 {
			return errShape
		}
	}
	if _, there := m.shelves[key]; there {
		return errThere
	}
	at := 0
	if len(blocks) > 0 {
		at = m.first(len(blocks))
	}
	if at < 0 {
		return errFull
	}
	var cells []int
	for i := range blocks {
		cells = append(cells, at+i)
	}
	return m.writes(at, bytes.Join(blocks, nil), standingRecord(key, shard, cells...))
}

func (m *model) mend(key uint64, stripe int, raw []byte) api.Errno {
	s, there := m.shelves[key]
	if !there {
		return errNone
	}
	if stripe < 0 || stripe >= len(s.Cells) {
		return errArg
	}
	if len(raw) != 128 {
		return errShape
	}
	cell := m.first(1)
	if cell < 0 {
		return errFull
	}
	return m.writes(cell, raw, movedRecord(key, stripe, cell))
}

func (m *model) drop(key uint64) api.Errno {
	if _, there := m.shelves[key]; !there {
		return errNone
	}
	return m.note(givenUpRecord(key))
}

func (m *model) get(key uint64) (shard uint8, blocks [][]byte, bad []int, e api.Errno) {
	s, there := m.shelves[key]
	if !there {
		return 0, nil, nil, errNone
	}
	for i, cell := range s.Cells {
		b, err := m.d.Read(m.g.Data.At+2*cell, 2)
		if err != ok {
			return 0, nil, nil, err
		}
		blocks = append(blocks, b)
		if x, err := block.Parse(b); err != ok || x.Key != key || int(x.Stripe) != i || x.Shard != s.Shard {
			bad = append(bad, i)
		}
	}
	return s.Shard, blocks, bad, ok
}

// twin is a store and its model, each with its own disk.
type twin struct {
	g api.Region
	d *disk.Disk
	s *store.Store
	m *model
}

// step is one thing that is done to a twin.
type step struct {
	kind   int
	key    uint64
	shard  uint8
	blocks [][]byte
	stripe int
	fates  []int
	n      int
	place  int
	by     byte
}

const (
	stepPut = iota
	stepDrop
	stepMend
	stepGet
	stepBad
	stepFuse
	stepRestart
	stepKill
	stepRot
	stepReopen
	stepKinds
)

func newTwin(tb testing.TB, image []byte, g api.Region) *twin {
	tb.Helper()
	w := &twin{g: g, d: diskOf(tb, image)}
	m, err := modelOf(diskOf(tb, image), g)
	if err != ok {
		wantRefused(tb, w.d, g, err)
		return nil
	}
	w.m, w.s = m, open(tb, w.d, g)
	w.hold(tb)
	return w
}

// hold holds what both are against each other, and the bytes of both disks.
func (w *twin) hold(tb testing.TB) {
	tb.Helper()
	wantSame(tb, w.s, w.m.state())
	if w.d.Dead() != w.m.d.Dead() || w.d.Waiting() != w.m.d.Waiting() {
		tb.Fatalf("dead %v, %d wait, want %v, %d", w.d.Dead(), w.d.Waiting(), w.m.d.Dead(), w.m.d.Waiting())
	}
	if !w.d.Dead() && !bytes.Equal(imageOf(tb, w.d), imageOf(tb, w.m.d)) {
		tb.Fatal("other bytes stand on the disk")
	}
}

// asked is what the model answers to a step that is a call.
func (m *model) asked(s step) (shard uint8, blocks [][]byte, bad []int, e api.Errno) {
	if m.dead {
		return 0, nil, nil, errDead
	}
	switch s.kind {
	case stepPut:
		e = m.put(s.key, s.shard, s.blocks)
	case stepDrop:
		e = m.drop(s.key)
	case stepMend:
		e = m.mend(s.key, s.stripe, s.blocks[0])
	case stepGet, stepBad:
		shard, blocks, bad, e = m.get(s.key)
	}
	m.dead = e == errDead
	return shard, blocks, bad, e
}

// call makes a call of both.
func (w *twin) call(tb testing.TB, s step) {
	tb.Helper()
	shard, blocks, bad, want := w.m.asked(s)
	switch s.kind {
	case stepPut:
		wantPut(tb, w.s, s.key, s.shard, s.blocks, want)
	case stepDrop:
		wantDrop(tb, w.s, s.key, want)
	case stepMend:
		wantMend(tb, w.s, s.key, s.stripe, s.blocks[0], want)
	case stepGet:
		gotShard, got, err := w.s.Get(s.key)
		if gotShard != shard || err != want || !slices.EqualFunc(got, blocks, bytes.Equal) {
			tb.Fatalf("Get(%d): %d, %v, %v, want %d, %v, %v", s.key, gotShard, got, err, shard, blocks, want)
		}
	case stepBad:
		if got, err := w.s.Bad(s.key); err != want || !slices.Equal(got, bad) {
			tb.Fatalf("Bad(%d): %v, %v, want %v, %v", s.key, got, err, bad, want)
		}
	}
}

// take does a step to both, and tells whether there is still a store.
func (w *twin) take(tb testing.TB, s step) bool {
	tb.Helper()
	switch s.kind {
	case stepFuse:
		w.d.Fuse(s.n)
		w.m.d.Fuse(s.n)
	case stepRestart:
		w.d.Restart(s.fates)
		w.m.d.Restart(s.fates)
	case stepKill:
		w.d.Kill()
		w.m.d.Kill()
	case stepRot:
		w.d.Rot(s.n, s.place, s.by)
		w.m.d.Rot(s.n, s.place, s.by)
	case stepReopen:
		m, err := modelOf(w.m.d, w.g)
		if err != ok {
			wantRefused(tb, w.d, w.g, err)
			return err == errDead
		}
		w.m, w.s = m, open(tb, w.d, w.g)
	default:
		w.call(tb, s)
	}
	w.hold(tb)
	return true
}

// anyBlocks are right ones, mostly.
func anyBlocks(dice *rand.Rand, key uint64, shard uint8, count int) [][]byte {
	l := rights(key, shard, count)
	if count > 0 && dice.IntN(4) == 0 {
		l[dice.IntN(count)] = of(byte(dice.Uint32()), blockBytes)
	}
	if count > 0 && dice.IntN(20) == 0 {
		l[dice.IntN(count)] = of(7, pick(dice, []int{0, 127, 129}))
	}
	return l
}

func anyFates(dice *rand.Rand) []int {
	fates := make([]int, dice.IntN(8))
	for i := range fates {
		fates[i] = pick(dice, []int{0, 64, dice.IntN(65)})
	}
	return fates
}

func anyCall(dice *rand.Rand) step {
	s := step{kind: pick(dice, []int{stepPut, stepPut, stepPut, stepDrop, stepDrop, stepMend, stepMend, stepGet, stepBad})}
	s.key, s.shard = uint64(dice.IntN(6)), uint8(dice.IntN(3))
	switch s.kind {
	case stepPut:
		s.blocks = anyBlocks(dice, s.key, s.shard, pick(dice, []int{0, 1, 2, 3, 4, 9}))
	case stepMend:
		s.stripe = dice.IntN(5) - 1
		s.blocks = [][]byte{pick(dice, [][]byte{right(s.key, s.stripe, s.shard), of(byte(dice.Uint32()), blockBytes), right(s.key, s.stripe, 0), of(1, 127)})}
	}
	return s
}

func anyStep(dice *rand.Rand, sectors int) step {
	if dice.IntN(3) > 0 {
		return anyCall(dice)
	}
	s := step{kind: pick(dice, []int{stepFuse, stepFuse, stepRestart, stepRestart, stepReopen, stepReopen, stepReopen, stepKill, stepRot})}
	s.fates, s.n = anyFates(dice), dice.IntN(14)-1
	if s.kind == stepRot {
		s.n, s.place, s.by = dice.IntN(sectors), dice.IntN(size), byte(1)<<dice.IntN(8)
	}
	return s
}

// anyRegion is a region, and how many sectors its disk has.
func anyRegion(dice *rand.Rand) (api.Region, int) {
	spare := func() int { return dice.IntN(3) }
	j, data := 4+dice.IntN(10), dice.IntN(40)
	if dice.IntN(2) == 0 {
		at := spare()
		dataAt := at + j + spare()
		return region(at, j, dataAt, data), dataAt + data + spare()
	}
	dataAt := spare()
	at := dataAt + data + spare()
	return region(at, j, dataAt, data), at + j + spare()
}

func TestAnySteps(t *testing.T) {
	dice := newDice()
	for range 2500 {
		g, sectors := anyRegion(dice)
		w := newTwin(t, make([]byte, sectors*size), g)
		for range 60 {
			if !w.take(t, anyStep(dice, sectors)) {
				break
			}
		}
	}
}

// Without power that goes, and without rot, runs come further.
func TestAnyCalls(t *testing.T) {
	dice := newDice()
	for range 500 {
		g, sectors := anyRegion(dice)
		w := newTwin(t, make([]byte, sectors*size), g)
		for range 100 {
			w.take(t, anyCall(dice))
			if dice.IntN(10) == 0 {
				w.take(t, step{kind: stepReopen})
			}
		}
	}
}

// All runs of a few steps.
func TestAllShortRuns(t *testing.T) {
	steps := []step{
		{kind: stepPut, key: 1, shard: 1, blocks: rights(1, 1, 2)},
		{kind: stepPut, key: 2, shard: 0, blocks: rights(2, 0, 1)},
		{kind: stepPut, key: 3, shard: 2},
		{kind: stepDrop, key: 1},
		{kind: stepDrop, key: 2},
		{kind: stepMend, key: 1, stripe: 0, blocks: [][]byte{right(1, 0, 1)}},
		{kind: stepMend, key: 2, stripe: 0, blocks: same(9, 1)},
		{kind: stepFuse, n: 1},
		{kind: stepFuse, n: 4},
		{kind: stepRestart, fates: []int{30, 64, 9}},
		{kind: stepReopen},
	}
	const deep = 4
	runs := 1
	for range deep {
		runs *= len(steps)
	}
	g := region(1, 5, 7, 10) // five cells, and 64 bytes of records
	for number := range runs {
		w := newTwin(t, make([]byte, 18*size), g)
		for left, i := number, 0; i < deep; i++ {
			if !w.take(t, steps[left%len(steps)]) {
				break
			}
			left /= len(steps)
		}
	}
}

// Records by dice: those that go, mostly, and some that do not.
func anyRecord(dice *rand.Rand) []byte {
	key, cell := uint64(dice.IntN(3)), func() int { return dice.IntN(9) }
	var r []byte
	switch dice.IntN(4) {
	case 0:
		cells := make([]int, dice.IntN(4))
		for i := range cells {
			cells[i] = cell()
		}
		r = standingRecord(key, byte(dice.IntN(3)), cells...)
	case 1:
		r = givenUpRecord(key)
	case 2:
		r = movedRecord(key, dice.IntN(3), cell())
	case 3:
		r = spoiledRecord(cell())
	}
	switch dice.IntN(40) {
	case 0:
		r = r[:dice.IntN(len(r))]
	case 1:
		r = append(r, byte(dice.IntN(3)))
	case 2:
		r[dice.IntN(len(r))] ^= 1 << dice.IntN(8)
	}
	return r
}

func TestOpenOfAnyRecords(t *testing.T) {
	dice := newDice()
	g := region(0, 20, 20, 17)
	counts := map[api.Errno]int{}
	for range 30000 {
		// Records that go, as far as the dice found some; then, one time in two, any one.
		var l [][]byte
		m, _ := modelOf(newDisk(t, 37), g)
		for range dice.IntN(12) {
			r := anyRecord(dice)
			if trial := m.with(r); trial != nil {
				m, l = trial, append(l, r)
			}
		}
		if dice.IntN(2) == 0 {
			l = append(l, anyRecord(dice))
		}
		d := withRecords(t, 37, g, l...)
		m, want := modelOf(d, g)
		counts[want]++
		if want != ok {
			wantRefused(t, d, g, want)
			continue
		}
		wantSame(t, open(t, d, g), m.state())
	}
	if counts[ok] < 5000 || counts[errBroken] < 3000 {
		t.Error("the dice are no good:", counts)
	}
}

// with is the model behind one record more, or nil, if that does not go.
func (m *model) with(r []byte) *model {
	n := &model{g: m.g, shelves: map[uint64]api.Shelf{}, spoiled: maps.Clone(m.spoiled)}
	for key, s := range m.shelves {
		n.shelves[key] = shelf(key, s.Shard, slices.Clone(s.Cells)...)
	}
	if !n.goes(r) {
		return nil
	}
	return n
}

// P17.7

// content is what a store tells of everything: as a text, so that two can be held against each other.
func content(tb testing.TB, s *store.Store) string {
	tb.Helper()
	text := fmt.Sprintln(s.Shelves(), s.Spoiled(), s.Free())
	for _, x := range s.Shelves() {
		shard, blocks, err := s.Get(x.Key)
		wantErr(tb, "Get", err, ok)
		text += fmt.Sprintln(shard, blocks)
	}
	return text
}

// doCall makes a step's call of a store alone.
func doCall(s *store.Store, x step) api.Errno {
	switch x.kind {
	case stepPut:
		return s.Put(x.key, x.shard, x.blocks)
	case stepDrop:
		return s.Drop(x.key)
	case stepMend:
		return s.Mend(x.key, x.stripe, x.blocks[0])
	}
	return ok
}

// fatesToTry are all fates of the first sectors, and some more.
func fatesToTry(dice *rand.Rand) [][]int {
	l := [][]int{nil, {64, 64, 64, 64, 64, 64, 64, 64}, {0, 64, 64, 64, 64, 64}, {64}, {64, 64, 64}}
	for c := range size + 1 {
		l = append(l, []int{c}, []int{64, c}, []int{c, c, c, c})
	}
	for range 20 {
		l = append(l, anyFates(dice))
	}
	return l
}

// Each call, cut at each call of the disk, with many fates of what waited.
func TestWholeOrNotAtAll(t *testing.T) {
	dice := newDice()
	prefixes := [][]step{
		nil,
		{{kind: stepPut, key: 1, shard: 1, blocks: rights(1, 1, 2)}},
		{{kind: stepPut, key: 1, shard: 1, blocks: rights(1, 1, 2)}, {kind: stepPut, key: 2, shard: 0, blocks: rights(2, 0, 3)}, {kind: stepDrop, key: 1}, {kind: stepMend, key: 2, stripe: 1, blocks: same(5, 1)}, {kind: stepPut, key: 1, shard: 3, blocks: rights(1, 3, 1)}},
	}
	calls := []step{
		{kind: stepPut, key: 7, shard: 1, blocks: rights(7, 1, 2)},
		{kind: stepPut, key: 7, shard: 1},
		{kind: stepDrop, key: 1},
		{kind: stepMend, key: 1, stripe: 0, blocks: [][]byte{right(1, 0, 1)}},
	}
	for _, journalSectors := range []int{6, 8, 20} { // of which the first is made anew more often
		g := region(1, journalSectors, journalSectors+1, 16)
		for _, ahead := range prefixes {
			d := newDisk(t, journalSectors+18)
			s := open(t, d, g)
			for _, x := range ahead {
				wantErr(t, "ahead", doCall(s, x), ok)
			}
			for _, x := range calls {
				cutInAllWays(t, dice, imageOf(t, d), g, x)
			}
		}
	}
}

func cutInAllWays(t *testing.T, dice *rand.Rand, image []byte, g api.Region, x step) {
	t.Helper()
	d := diskOf(t, image)
	s := open(t, d, g)
	before := content(t, s)
	whole := doCall(s, x)
	after := content(t, s)
	for fuse := range 12 {
		for _, fates := range fatesToTry(dice) {
			d := diskOf(t, image)
			s := open(t, d, g)
			d.Fuse(fuse)
			err := doCall(s, x)
			if err != errDead && err != whole {
				t.Fatal(err, whole)
			}
			d.Restart(fates)
			anew := open(t, d, g)
			now := content(t, anew)
			if now != after && (now != before || err == ok) {
				t.Fatalf("%v, fuse %d, fates %v: %v: %s, want %s or %s", x, fuse, fates, err, now, before, after)
			}
			wantOutside(t, d, g, image)
			if err == whole {
				break
			}
			// It goes on from there as any other.
			put(t, anew, 50, 1, 1)
			wantBad(t, open(t, d, g), 50)
		}
	}
}

// wantOutside holds what lies in neither of a region's runs to be as it was.
func wantOutside(tb testing.TB, d *disk.Disk, g api.Region, image []byte) {
	tb.Helper()
	inside := sectorsOf(g.Journal)
	maps.Copy(inside, sectorsOf(g.Data))
	now := imageOf(tb, d)
	for at := range d.Size() {
		if !inside[at] && !bytes.Equal(now[at*size:][:size], image[at*size:][:size]) {
			tb.Fatalf("sector %d was written", at)
		}
	}
}

// The power goes again and again, in the midst of anything.
func TestPowerGoesAgainAndAgain(t *testing.T) {
	dice := newDice()
	cuts := 0
	for range 400 {
		g, sectors := anyRegion(dice)
		image := make([]byte, sectors*size)
		for i := range image {
			if at := i / size; at < g.Journal.At || at >= g.Journal.At+g.Journal.Count {
				image[i] = byte(dice.Uint32())
			}
		}
		d := diskOf(t, image)
		m, err := modelOf(diskOf(t, image), g)
		wantErr(t, "modelOf", err, ok)
		s := open(t, d, g)
		for range 50 {
			x := anyCall(dice)
			before := content(t, s)
			d.Fuse(dice.IntN(9))
			err := doCall(s, x)
			if err != errDead {
				// The model, whose power does not go, tells what a call makes of it.
				if _, _, _, want := m.asked(x); x.kind <= stepMend && want != err {
					t.Fatal(x, err, want)
				}
				wantSame(t, s, m.state())
				continue
			}
			cuts++
			d.Restart(anyFates(dice))
			s = open(t, d, g)
			if content(t, s) != before {
				// Then it is as the whole call makes it.
				if _, _, _, want := m.asked(x); want != ok {
					t.Fatal(x, want)
				}
				wantSame(t, s, m.state())
			}
			wantOutside(t, d, g, image)
			m, err = modelOf(diskOf(t, imageOf(t, d)), g)
			wantErr(t, "modelOf", err, ok)
			wantSame(t, s, m.state())
		}
	}
	if cuts < 2000 {
		t.Error("the dice are no good:", cuts)
	}
}

// P17.8

// wantApart holds shelves, spoiled cells and how many are free to make up all cells, each once.
func wantApart(tb testing.TB, s *store.Store, cells int) {
	tb.Helper()
	times := make([]int, cells)
	count := s.Free() + len(s.Spoiled())
	for _, c := range s.Spoiled() {
		times[c]++
	}
	for _, x := range s.Shelves() {
		count += len(x.Cells)
		for _, c := range x.Cells {
			times[c]++
		}
	}
	if count != cells || slices.Max(append(times, 0)) > 1 {
		tb.Fatalf("%d cells of %d; cells are met %v times", count, cells, times)
	}
}

func TestNoCellTwice(t *testing.T) {
	dice := newDice()
	for range 300 {
		g, sectors := anyRegion(dice)
		d := newDisk(t, sectors)
		s := open(t, d, g)
		for range 60 {
			doCall(s, anyCall(dice))
			wantApart(t, s, g.Data.Count/2)
			if dice.IntN(8) == 0 {
				s = open(t, d, g)
				wantApart(t, s, g.Data.Count/2)
			}
		}
	}
}

// A spoiled cell is never used again, whatever is put, mended and dropped.
func TestSpoiledForGood(t *testing.T) {
	dice := newDice()
	for range 100 {
		g := region(0, 20, 20, 60)
		d := newDisk(t, 80)
		s := open(t, d, g)
		var was []int
		for range 80 {
			doCall(s, anyCall(dice))
			now := s.Spoiled()
			for _, cell := range was {
				if !slices.Contains(now, cell) {
					t.Fatal("spoiled", was, "then", now)
				}
			}
			was = now
			if dice.IntN(10) == 0 {
				s = open(t, d, g)
			}
		}
	}
}

// What rots is told, and is right again behind Mend of the block's own bytes.
func TestRottedAndMended(t *testing.T) {
	dice := newDice()
	for range 300 {
		d, s := newStore(t)
		put(t, s, 6, 0, 2)
		put(t, s, 7, 2, 5)
		for range 8 {
			cells := s.Shelves()[1].Cells
			rotted := map[int]bool{}
			for range dice.IntN(3) {
				stripe := dice.IntN(5)
				if rotted[stripe] {
					continue
				}
				rotted[stripe] = true
				wantErr(t, "Rot", d.Rot(20+2*cells[stripe]+dice.IntN(2), dice.IntN(size), byte(1+dice.IntN(255))), ok)
			}
			wantBad(t, s, 7, slices.Sorted(maps.Keys(rotted))...)
			wantBad(t, s, 6)
			for _, stripe := range slices.Sorted(maps.Keys(rotted)) {
				err := s.Mend(7, stripe, right(7, stripe, 2))
				if s.Free() == 0 && err == errFull {
					return
				}
				wantErr(t, "Mend", err, ok)
			}
			wantBad(t, s, 7)
			wantGet(t, s, 7, 2, rights(7, 2, 5))
			wantBad(t, open(t, d, small()), 7)
		}
	}
}

// R2 and R3

// copyOf is lists of bytes in memory of their own.
func copyOf(l [][]byte) [][]byte {
	m := make([][]byte, len(l))
	for i, b := range l {
		m[i] = bytes.Clone(b)
	}
	return m
}

// scrawl writes over lists of bytes, and the room behind them.
func scrawl(l [][]byte) {
	for _, b := range l[:cap(l)] {
		b = b[:cap(b)]
		for i := range b {
			b[i] = 0x5A
		}
	}
}

// roomy are right blocks with room behind each of them, and behind the list.
func roomy(key uint64, shard uint8, count int) [][]byte {
	l := make([][]byte, 0, count+3)
	for i := range count {
		l = append(l, append(make([]byte, 0, blockBytes+50), right(key, i, shard)...))
	}
	copy(l[:cap(l)][count:], [][]byte{of(1, 5), of(2, blockBytes), nil})
	return l
}

func TestArgumentsStayAndAreNotKept(t *testing.T) {
	d, s := newStore(t)
	l := roomy(7, 2, 3)
	whole := copyOf(l[:cap(l)])
	wantPut(t, s, 7, 2, l, ok)
	wantPut(t, s, 7, 2, l, errThere)
	wantMend(t, s, 7, 1, l[1], ok)
	for i, b := range whole {
		if !bytes.Equal(l[:cap(l)][i], b) || i < 3 && !bytes.Equal(l[i][:cap(l[i])][blockBytes:], of(0, cap(l[i])-blockBytes)) {
			t.Error("an argument was changed", i)
		}
	}
	scrawl(l)
	wantGet(t, s, 7, 2, rights(7, 2, 3))
	d.Restart(nil)
	wantGet(t, s, 7, 2, rights(7, 2, 3))
	wantState(t, s, 16, []int{1}, shelf(7, 2, 0, 3, 2))
}

// scrawlCells writes over numbers, and the room behind them.
func scrawlCells(l []int) {
	l = l[:cap(l)]
	for i := range l {
		l[i] = -5
	}
}

func TestAnswersTheirOwn(t *testing.T) {
	d, s := newStore(t)
	put(t, s, 7, 2, 5)
	put(t, s, 8, 1, 2)
	wantMend(t, s, 7, 1, right(7, 1, 2), ok)
	wantMend(t, s, 7, 4, of(0, blockBytes), ok)
	want := state{[]api.Shelf{shelf(7, 2, 0, 7, 2, 3, 8), shelf(8, 1, 5, 6)}, []int{1, 4}, 11}
	wantSame(t, s, want)
	first, second := s.Shelves(), s.Shelves()
	scrawlCells(first[0].Cells)
	if !sameShelf(first[1], shelf(8, 1, 5, 6)) {
		t.Error("two lists of one answer share memory")
	}
	for i := range first[:cap(first)] {
		first[:cap(first)][i] = shelf(99, 9, 9)
	}
	if !slices.EqualFunc(second, want.shelves, sameShelf) {
		t.Error("two answers share memory")
	}
	scrawlCells(s.Spoiled())
	wantSame(t, s, want)

	_, blocks, _ := s.Get(8)
	scrawl(blocks[:1:1])
	if !bytes.Equal(blocks[1], right(8, 1, 1)) {
		t.Error("two blocks of one answer share memory")
	}
	wantGet(t, s, 8, 1, rights(8, 1, 2))
	bad, _ := s.Bad(7)
	scrawlCells(bad)
	wantBad(t, s, 7, 4)

	// An answer stays as it is, too, whatever is done to the store.
	_, blocks, _ = s.Get(7)
	told, lists, spoiled := copyOf(blocks), s.Shelves(), s.Spoiled()
	wantMend(t, s, 7, 0, of(3, blockBytes), ok)
	wantDrop(t, s, 8, ok)
	wantErr(t, "Rot", d.Rot(20+2*2, 3, 9), ok)
	put(t, s, 9, 1, 4)
	if !slices.EqualFunc(blocks, told, bytes.Equal) || !slices.EqualFunc(lists, want.shelves, sameShelf) || !slices.Equal(spoiled, want.spoiled) {
		t.Error("an answer was changed by a later call")
	}
}

// Two stores side by side on one disk know nothing of each other.
func TestStoresApart(t *testing.T) {
	d := newDisk(t, 80)
	g, h := region(0, 10, 10, 30), region(40, 10, 50, 30)
	a, b := open(t, d, g), open(t, d, h)
	put(t, a, 7, 1, 3)
	wantNoGet(t, b, 7, errNone)
	put(t, b, 7, 2, 2)
	wantDrop(t, a, 7, ok)
	wantState(t, a, 15, nil)
	wantGet(t, b, 7, 2, rights(7, 2, 2))
	wantMend(t, b, 7, 0, right(7, 0, 2), ok)
	wantState(t, open(t, d, g), 15, nil)
	wantState(t, open(t, d, h), 12, []int{0}, shelf(7, 2, 2, 1))
	d.Kill()
	wantPut(t, a, 7, 1, nil, errDead)
	d.Restart(nil)
	wantGet(t, b, 7, 2, rights(7, 2, 2))
	wantPut(t, a, 7, 1, nil, errDead)
}

// The same calls come to the same bytes, however often they are made.
func TestAlike(t *testing.T) {
	image := func() []byte {
		dice := newDice()
		d := newDisk(t, 60)
		s := open(t, d, small())
		for range 500 {
			doCall(s, anyCall(dice))
		}
		return imageOf(t, d)
	}
	first := image()
	for range 5 {
		if !bytes.Equal(first, image()) {
			t.Fatal("the same calls came to other bytes")
		}
	}
}

// madeOf reads steps out of bytes, four at a time.
func madeOf(data []byte, sectors int) []step {
	var steps []step
	for ; len(data) >= 4; data = data[4:] {
		a, b, c := int(data[1]), int(data[2]), int(data[3])
		s := step{kind: int(data[0]) % stepKinds, key: uint64(a % 4), shard: data[2] % 3}
		switch s.kind {
		case stepPut:
			s.blocks = rights(s.key, s.shard, c%8)
		case stepMend:
			s.stripe = c%9 - 1
			s.blocks = [][]byte{right(s.key, s.stripe, s.shard)}
		case stepFuse:
			s.n = a%14 - 1
		case stepRestart:
			s.fates = []int{a, b, c}
		case stepRot:
			s.n, s.place, s.by = a%sectors, b%size, data[3]
		}
		steps = append(steps, s)
	}
	return steps
}

func FuzzSteps(f *testing.F) {
	f.Add([]byte{}, []byte{0, 1, 1, 2, 9, 0, 0, 0, 2, 1, 1, 1, 0, 2, 0, 3, 1, 1, 0, 0, 9, 0, 0, 0})
	f.Add(standingRecord(2, 1, 5, 4), []byte{5, 4, 0, 0, 0, 1, 1, 2, 6, 9, 64, 3, 9, 0, 0, 0, 3, 2, 0, 0, 4, 2, 0, 0})
	f.Add(spoiledRecord(3), []byte{8, 40, 3, 1, 0, 1, 1, 7, 7, 0, 0, 0, 3, 1, 0, 0, 6, 0, 0, 0, 9, 0, 0, 0})
	f.Fuzz(func(t *testing.T, record, data []byte) {
		g := region(1, 7, 8, 21)
		j, err := journal.Open(newDisk(t, 30), g.Journal)
		wantErr(t, "journal.Open", err, ok)
		d := newDisk(t, 30)
		if j.Add([][]byte{record}) == ok && len(record) > 0 {
			d = withRecords(t, 30, g, record)
		}
		w := newTwin(t, imageOf(t, d), g)
		for _, s := range madeOf(data[:min(len(data), 400)], 30) {
			if w == nil || !w.take(t, s) {
				return
			}
		}
	})
}
