package disk_test

import (
	"bytes"
	"fmt"
	"math"
	"math/big"
	"math/rand/v2"
	"slices"
	"testing"

	"tabulary/api"
	"tabulary/disk"
)

// The numbers of the chapter, told here over again.
const (
	ok       = api.Errno(0)
	errArg   = api.Errno(1)
	errLong  = api.Errno(2)
	errShape = api.Errno(6)
	errNil   = api.Errno(8)
	errDead  = api.Errno(140)

	size = 64      // bytes of a sector
	most = 1 << 16 // sectors of a disk

	room = 200 // behind the end of a list, in tests
)

func newDice() *rand.Rand { return rand.New(rand.NewPCG(14, 15)) }

func pick[T any](dice *rand.Rand, from []T) T { return from[dice.IntN(len(from))] }

// of is so many bytes of one kind.
func of(b byte, count int) []byte { return bytes.Repeat([]byte{b}, count) }

// all is so many sectors of one kind of bytes.
func all(b byte, sectors int) []byte { return of(b, sectors*size) }

// numbered is so many sectors all bytes of which differ from their neighbours.
func numbered(from byte, sectors int) []byte {
	b := make([]byte, sectors*size)
	for i := range b {
		b[i] = from + byte(3*i+i/size)
	}
	return b
}

func newDisk(tb testing.TB, sectors int) *disk.Disk {
	tb.Helper()
	d, err := disk.New(sectors)
	if err != ok || d == nil {
		tb.Fatalf("New(%d): %v, %v", sectors, d, err)
	}
	return d
}

func wantErr(tb testing.TB, what string, got, want api.Errno) {
	tb.Helper()
	if got != want {
		tb.Fatalf("%s: %v, want %v", what, got, want)
	}
}

func wantRead(tb testing.TB, d *disk.Disk, at, count int, want []byte) {
	tb.Helper()
	b, err := d.Read(at, count)
	if err != ok || !bytes.Equal(b, want) {
		tb.Fatalf("Read(%d, %d): %v, %v, want %v", at, count, b, err, want)
	}
}

func wantRefused(tb testing.TB, d *disk.Disk, at, count int, want api.Errno) {
	tb.Helper()
	b, err := d.Read(at, count)
	if err != want || len(b) != 0 {
		tb.Fatalf("Read(%d, %d): %v, %v, want no bytes, %v", at, count, b, err, want)
	}
}

func wantWaiting(tb testing.TB, d *disk.Disk, want int) {
	tb.Helper()
	if got := d.Waiting(); got != want {
		tb.Fatalf("Waiting %d, want %d", got, want)
	}
}

func write(tb testing.TB, d *disk.Disk, at int, b []byte) {
	tb.Helper()
	wantErr(tb, fmt.Sprintf("Write(%d, %d bytes)", at, len(b)), d.Write(at, b), ok)
}

func sync(tb testing.TB, d *disk.Disk) {
	tb.Helper()
	wantErr(tb, "Sync", d.Sync(), ok)
	wantWaiting(tb, d, 0)
}

// wantCalls holds a disk to be one that takes just so many calls more, and ends it by that.
func wantCalls(tb testing.TB, d *disk.Disk, calls int) {
	tb.Helper()
	for i := range calls {
		wantErr(tb, fmt.Sprint("call ", i), d.Write(0, nil), ok)
	}
	wantErr(tb, "call at the fuse", d.Write(0, nil), errDead)
	if !d.Dead() {
		tb.Fatal("has power behind the fuse")
	}
}

// wantNoFuse holds a disk to be one with power and without a fuse, as far as some calls tell.
func wantNoFuse(tb testing.TB, d *disk.Disk) {
	tb.Helper()
	for range 100 {
		wantErr(tb, "Write without a fuse", d.Write(0, nil), ok)
	}
	if d.Dead() {
		tb.Fatal("dead without a fuse")
	}
}

// greatNumbers are those at which sums and products wrap round.
func greatNumbers() []int {
	return []int{math.MinInt, math.MinInt + 1, math.MinInt / size, -most, -65, -64, -1, most + 1, math.MaxInt / size, math.MaxInt/size + 1, math.MaxInt - 3, math.MaxInt}
}

// The chapter's examples, line by line.

func TestExampleOfNew(t *testing.T) {
	for sectors, want := range map[int]api.Errno{0: errArg, 65537: errLong} {
		if d, err := disk.New(sectors); d != nil || err != want {
			t.Errorf("New(%d): %v, %v, want nil, %v", sectors, d, err, want)
		}
	}
}

func TestExampleOfRestart(t *testing.T) {
	for _, c := range []struct {
		fates []int
		want  []byte
	}{
		{nil, all(0, 1)},
		{[]int{10}, append(of(7, 10), of(0, 54)...)},
	} {
		d := newDisk(t, 4)
		write(t, d, 1, all(7, 1))
		wantRead(t, d, 1, 1, all(7, 1))
		wantWaiting(t, d, 1)
		d.Restart(c.fates)
		wantRead(t, d, 1, 1, c.want)
	}
}

func TestExampleOfPlaces(t *testing.T) {
	d := newDisk(t, 4)
	wantErr(t, "65 bytes", d.Write(0, of(1, 65)), errShape)
	wantErr(t, "past the end", d.Write(4, of(1, 64)), errArg)
	wantErr(t, "none at the end", d.Write(4, nil), ok)
	wantRefused(t, d, 3, 2, errArg)
}

func TestExampleOfFuse(t *testing.T) {
	d := newDisk(t, 4)
	d.Fuse(1)
	wantErr(t, "Write", d.Write(0, nil), ok)
	wantErr(t, "Sync", d.Sync(), errDead)
	if !d.Dead() {
		t.Error("has power")
	}
	wantRefused(t, d, 0, 1, errDead)
}

// P14.1

func TestNew(t *testing.T) {
	for _, sectors := range []int{1, 2, 3, 63, 64, 65, 4096, most - 1, most} {
		d := newDisk(t, sectors)
		if d.Size() != sectors {
			t.Errorf("Size %d, want %d", d.Size(), sectors)
		}
		if d.Dead() {
			t.Errorf("%d sectors: no power", sectors)
		}
		wantWaiting(t, d, 0)
		wantRead(t, d, 0, sectors, all(0, sectors))
		wantNoFuse(t, d)
		wantRefused(t, d, 0, sectors+1, errArg)
	}
}

func TestNewRefused(t *testing.T) {
	for _, sectors := range append(greatNumbers(), 0, most+1, most+2) {
		want := errArg
		if sectors > most {
			want = errLong
		}
		if d, err := disk.New(sectors); d != nil || err != want {
			t.Errorf("New(%d): %v, %v, want nil, %v", sectors, d, err, want)
		}
	}
}

func TestSizeStays(t *testing.T) {
	d := newDisk(t, 5)
	for _, do := range []func(){
		func() { write(t, d, 2, all(1, 3)) },
		func() { sync(t, d) },
		func() { write(t, d, 0, all(2, 2)) },
		d.Kill,
		func() { d.Restart([]int{3}) },
		func() { wantErr(t, "Write", d.Write(5, all(1, 1)), errArg) },
	} {
		do()
		if d.Size() != 5 {
			t.Fatal("Size", d.Size())
		}
	}
}

// P14.2

func TestWrite(t *testing.T) {
	const sectors = 6
	for at := range sectors + 1 {
		for count := range sectors - at + 1 {
			d := newDisk(t, sectors)
			whole := numbered(90, sectors)
			write(t, d, 0, whole)
			sync(t, d)
			b := numbered(7, count)
			write(t, d, at, b)
			wantWaiting(t, d, count)
			copy(whole[at*size:], b)
			wantRead(t, d, 0, sectors, whole)
			d.Restart(nil)
			wantRead(t, d, 0, sectors, numbered(90, sectors))
		}
	}
}

func TestWriteOver(t *testing.T) {
	d := newDisk(t, 4)
	write(t, d, 0, all(1, 3))
	write(t, d, 1, all(2, 3))
	wantWaiting(t, d, 4)
	wantRead(t, d, 0, 4, append(all(1, 1), all(2, 3)...))
	write(t, d, 2, all(0, 1))
	wantWaiting(t, d, 4)
	d.Restart([]int{64, 1, 64, 63})
	want := slices.Concat(all(1, 1), of(2, 1), of(0, 63), all(0, 1), of(2, 63), of(0, 1))
	wantRead(t, d, 0, 4, want)
}

// What is written waits, also where it is what lasts.
func TestWriteOfTheSame(t *testing.T) {
	d := newDisk(t, 3)
	write(t, d, 1, all(0, 1))
	wantWaiting(t, d, 1)
	write(t, d, 2, all(9, 1))
	d.Restart([]int{64, 5})
	wantRead(t, d, 0, 3, slices.Concat(all(0, 2), of(9, 5), of(0, 59)))
}

func TestWriteRefused(t *testing.T) {
	const sectors = 4
	d := newDisk(t, sectors)
	write(t, d, 1, all(5, 1))
	d.Fuse(3)
	for _, at := range append(greatNumbers(), 0, 1, 3, 4, 5) {
		for _, length := range []int{1, 63, 65, 127, 129, 64*sectors - 1, 64*sectors + 1} {
			wantErr(t, fmt.Sprintf("Write(%d, %d bytes)", at, length), d.Write(at, of(1, length)), errShape)
		}
		for count := range sectors + 2 {
			if at < 0 || at > sectors || at+count > sectors {
				wantErr(t, fmt.Sprintf("Write(%d, %d sectors)", at, count), d.Write(at, all(1, count)), errArg)
			}
		}
	}
	wantWaiting(t, d, 1)
	wantRead(t, d, 0, sectors, slices.Concat(all(0, 1), all(5, 1), all(0, 2)))
	wantCalls(t, d, 3)
}

func TestWriteErrorsInOrder(t *testing.T) {
	d := newDisk(t, 2)
	d.Fuse(0)
	wantErr(t, "shape ahead of place", d.Write(-1, of(1, 65)), errShape)
	wantErr(t, "place ahead of fuse", d.Write(2, of(1, 64)), errArg)
	wantErr(t, "no bytes, no place", d.Write(3, nil), errArg)
	wantErr(t, "no bytes, no place", d.Write(-1, []byte{}), errArg)
	if d.Dead() {
		t.Fatal("a refused call burned the fuse")
	}
	wantErr(t, "fuse", d.Write(2, nil), errDead)
	wantErr(t, "power ahead of shape", d.Write(-1, of(1, 65)), errDead)
	wantErr(t, "power ahead of place", d.Write(2, of(1, 64)), errDead)
	wantErr(t, "without power", d.Write(0, nil), errDead)
	wantWaiting(t, d, 0)
}

// P14.3

func TestSync(t *testing.T) {
	d := newDisk(t, 4)
	sync(t, d)
	write(t, d, 3, all(3, 1))
	write(t, d, 0, all(1, 2))
	wantWaiting(t, d, 3)
	want := slices.Concat(all(1, 2), all(0, 1), all(3, 1))
	sync(t, d)
	wantRead(t, d, 0, 4, want)
	d.Restart([]int{0, 0, 0, 0})
	wantRead(t, d, 0, 4, want)
	d.Kill()
	wantErr(t, "without power", d.Sync(), errDead)
	d.Restart(nil)
	wantRead(t, d, 0, 4, want)
}

func TestSyncWithoutPower(t *testing.T) {
	d := newDisk(t, 2)
	write(t, d, 0, all(1, 1))
	d.Kill()
	wantErr(t, "Sync", d.Sync(), errDead)
	wantWaiting(t, d, 1)
	d.Restart(nil)
	wantRead(t, d, 0, 2, all(0, 2))
}

// P14.4

func TestFuse(t *testing.T) {
	for n := range 20 {
		d := newDisk(t, 2)
		d.Fuse(n)
		wantCalls(t, d, n)
		d.Restart(nil)
		wantNoFuse(t, d)
	}
}

// A fuse counts Writes and Syncs alike.
func TestFuseOfBoth(t *testing.T) {
	for turns := range 16 {
		d := newDisk(t, 2)
		d.Fuse(4)
		for i := range 4 {
			if turns>>i&1 == 0 {
				wantErr(t, "Write", d.Write(1, all(byte(i), 1)), ok)
			} else {
				wantErr(t, "Sync", d.Sync(), ok)
			}
		}
		if d.Dead() {
			t.Fatal("dead ahead of the fuse's end")
		}
		wantErr(t, "Sync at the fuse", d.Sync(), errDead)
		if !d.Dead() {
			t.Fatal("has power")
		}
	}
}

func TestFuseOfWrite(t *testing.T) {
	d := newDisk(t, 3)
	write(t, d, 0, all(1, 1))
	d.Fuse(0)
	wantErr(t, "Write", d.Write(0, all(2, 2)), errDead)
	wantWaiting(t, d, 1)
	d.Restart([]int{64, 64})
	wantRead(t, d, 0, 3, slices.Concat(all(1, 1), all(0, 2)))
}

func TestFuseOfSync(t *testing.T) {
	d := newDisk(t, 3)
	write(t, d, 0, all(1, 2))
	d.Fuse(0)
	wantErr(t, "Sync", d.Sync(), errDead)
	wantWaiting(t, d, 2)
	d.Restart([]int{0, 64})
	wantRead(t, d, 0, 3, slices.Concat(all(0, 1), all(1, 1), all(0, 1)))
}

func TestFuseAnew(t *testing.T) {
	for _, c := range []struct{ first, second int }{{0, 3}, {3, 0}, {3, 3}, {math.MaxInt, 2}, {-1, 2}, {math.MinInt, 1}} {
		d := newDisk(t, 2)
		d.Fuse(c.first)
		d.Fuse(c.second)
		wantCalls(t, d, c.second)
	}
}

func TestFuseTaken(t *testing.T) {
	for _, n := range []int{-1, -2, -64, math.MinInt} {
		for _, laid := range []int{0, 1, 5} {
			d := newDisk(t, 2)
			d.Fuse(laid)
			d.Fuse(n)
			wantNoFuse(t, d)
		}
	}
}

func TestFuseGreat(t *testing.T) {
	d := newDisk(t, 2)
	d.Fuse(math.MaxInt)
	wantNoFuse(t, d)
	sync(t, d)
}

// Only a Write or a Sync that is not refused comes to the fuse.
func TestFuseCountsNoOthers(t *testing.T) {
	d := newDisk(t, 2)
	d.Fuse(2)
	for range 5 {
		wantRead(t, d, 0, 2, all(0, 2))
		wantRefused(t, d, 0, 3, errArg)
		wantErr(t, "Rot", d.Rot(0, 0, 0), ok)
		wantErr(t, "Rot", d.Rot(2, 0, 0), errArg)
		wantErr(t, "Write", d.Write(0, of(1, 1)), errShape)
		wantErr(t, "Write", d.Write(2, of(1, 64)), errArg)
		wantWaiting(t, d, 0)
		if d.Size() != 2 || d.Dead() {
			t.Fatal("Size, Dead", d.Size(), d.Dead())
		}
	}
	wantCalls(t, d, 2)
}

func TestFuseGoneWithPower(t *testing.T) {
	for what, lose := range map[string]func(*disk.Disk){
		"killed":             func(d *disk.Disk) { d.Fuse(0); d.Kill() },
		"burned":             func(d *disk.Disk) { d.Fuse(0); d.Sync() },
		"laid without power": func(d *disk.Disk) { d.Kill(); d.Fuse(0) },
		"laid with power":    func(d *disk.Disk) { d.Fuse(0) },
		"in the midst of it": func(d *disk.Disk) { d.Fuse(5); d.Sync() },
	} {
		d := newDisk(t, 2)
		lose(d)
		d.Restart(nil)
		if d.Dead() {
			t.Fatal(what, "no power behind a restart")
		}
		wantNoFuse(t, d)
	}
}

// P14.5

func TestRead(t *testing.T) {
	const sectors = 6
	d := newDisk(t, sectors)
	whole := numbered(1, sectors)
	write(t, d, 0, whole)
	sync(t, d)
	copy(whole[size:], numbered(200, 2))
	write(t, d, 1, numbered(200, 2))
	copy(whole[4*size:], numbered(100, 1))
	write(t, d, 4, numbered(100, 1))
	for at := range sectors + 1 {
		for count := range sectors - at + 1 {
			wantRead(t, d, at, count, whole[at*size:(at+count)*size])
		}
	}
	wantWaiting(t, d, 3)
}

func TestReadRefused(t *testing.T) {
	const sectors = 4
	d := newDisk(t, sectors)
	numbers := append(greatNumbers(), 0, 1, 2, 3, 4, 5)
	for _, at := range numbers {
		for _, count := range numbers {
			if at >= 0 && count >= 0 && at <= sectors && count <= sectors && at+count <= sectors {
				wantRead(t, d, at, count, all(0, count))
			} else {
				wantRefused(t, d, at, count, errArg)
			}
		}
	}
	d.Kill()
	for _, at := range numbers {
		for _, count := range numbers {
			wantRefused(t, d, at, count, errDead)
		}
	}
}

// P14.6

func TestKill(t *testing.T) {
	d := newDisk(t, 2)
	write(t, d, 0, all(1, 1))
	for range 2 {
		d.Kill()
		if !d.Dead() {
			t.Fatal("has power")
		}
		wantWaiting(t, d, 1)
		wantErr(t, "Write", d.Write(1, all(2, 1)), errDead)
		wantErr(t, "Sync", d.Sync(), errDead)
		wantRefused(t, d, 0, 0, errDead)
		if d.Size() != 2 {
			t.Fatal("Size", d.Size())
		}
	}
	d.Restart([]int{64})
	if d.Dead() {
		t.Fatal("no power")
	}
	wantWaiting(t, d, 0)
	wantRead(t, d, 0, 2, append(all(1, 1), all(0, 1)...))
}

// modulo65 is from 0 to 64.
func modulo65(fate int) int {
	return int(new(big.Int).Mod(big.NewInt(int64(fate)), big.NewInt(65)).Int64())
}

func TestFates(t *testing.T) {
	fates := append(greatNumbers(), 1<<31, -1<<31, 1<<32, 130, 131, -66, -130)
	for fate := -200; fate <= 200; fate++ {
		fates = append(fates, fate)
	}
	for _, fate := range fates {
		d := newDisk(t, 1)
		lasts, waits := numbered(1, 1), numbered(2, 1)
		write(t, d, 0, lasts)
		sync(t, d)
		write(t, d, 0, waits)
		d.Restart([]int{fate})
		wantWaiting(t, d, 0)
		c := modulo65(fate)
		wantRead(t, d, 0, 1, append(slices.Clone(waits[:c]), lasts[c:]...))
		d.Restart([]int{64})
		wantRead(t, d, 0, 1, append(slices.Clone(waits[:c]), lasts[c:]...))
	}
}

func TestFatesWrittenOut(t *testing.T) {
	for fate, kept := range map[int]int{0: 0, 1: 1, 63: 63, 64: 64, 65: 0, 66: 1, 129: 64, 130: 0, -1: 64, -64: 1, -65: 0, -66: 64, 6500: 0, 6510: 10} {
		d := newDisk(t, 2)
		write(t, d, 1, all(8, 1))
		d.Restart([]int{fate})
		wantRead(t, d, 0, 2, slices.Concat(all(0, 1), of(8, kept), of(0, 64-kept)))
	}
}

// Fates go by the sectors' numbers, not by the order of writing, and only to those in which something waits.
func TestFatesInOrder(t *testing.T) {
	d := newDisk(t, 9)
	write(t, d, 4, all(4, 1))
	sync(t, d)
	for _, at := range []int{7, 2, 8, 0, 5} {
		write(t, d, at, all(byte(10+at), 1))
	}
	d.Restart([]int{1, 2, 3, 4, 5})
	want := all(0, 9)
	copy(want[4*size:], all(4, 1))
	for i, at := range []int{0, 2, 5, 7, 8} {
		copy(want[at*size:], of(byte(10+at), i+1))
	}
	wantRead(t, d, 0, 9, want)
}

func TestFatesTooFewOrMany(t *testing.T) {
	for count := range 7 {
		d := newDisk(t, 5)
		write(t, d, 0, all(1, 5))
		sync(t, d)
		write(t, d, 1, all(2, 3))
		d.Restart(slices.Repeat([]int{20}, count))
		want := all(1, 5)
		for i := range min(count, 3) {
			copy(want[(1+i)*size:], of(2, 20))
		}
		wantRead(t, d, 0, 5, want)
		wantWaiting(t, d, 0)
	}
}

// What a restart made of a sector lasts.
func TestRestartLasts(t *testing.T) {
	d := newDisk(t, 1)
	write(t, d, 0, all(1, 1))
	d.Restart([]int{40})
	write(t, d, 0, all(2, 1))
	d.Restart([]int{20})
	want := slices.Concat(of(2, 20), of(1, 20), of(0, 24))
	wantRead(t, d, 0, 1, want)
	d.Kill()
	d.Restart([]int{64})
	wantRead(t, d, 0, 1, want)
}

// P14.7

func TestWaiting(t *testing.T) {
	d := newDisk(t, 8)
	for _, c := range []struct{ at, count, want int }{{0, 0, 0}, {3, 1, 1}, {3, 1, 1}, {2, 3, 3}, {8, 0, 3}, {7, 1, 4}, {0, 8, 8}} {
		write(t, d, c.at, all(1, c.count))
		wantWaiting(t, d, c.want)
	}
	d.Kill()
	wantWaiting(t, d, 8)
	d.Restart(nil)
	wantWaiting(t, d, 0)
	write(t, d, 5, all(1, 2))
	wantWaiting(t, d, 2)
	sync(t, d)
}

func TestRot(t *testing.T) {
	const sectors = 3
	for place := range size {
		for at := range sectors {
			d := newDisk(t, sectors)
			want := numbered(5, sectors)
			write(t, d, 0, want)
			sync(t, d)
			by := byte(1 << (place % 8))
			wantErr(t, "Rot", d.Rot(at, place, by), ok)
			want[at*size+place] ^= by
			wantWaiting(t, d, 0)
			wantRead(t, d, 0, sectors, want)
			d.Restart(nil)
			wantRead(t, d, 0, sectors, want)
			wantErr(t, "Rot", d.Rot(at, place, by), ok)
			wantRead(t, d, 0, sectors, numbered(5, sectors))
		}
	}
}

// What waits rots with what lasts, whichever of the two comes out of it.
func TestRotOfBoth(t *testing.T) {
	for _, place := range []int{0, 9, 10, 63} {
		for _, fate := range []int{0, 10, 64} {
			d := newDisk(t, 2)
			lasts, waits := numbered(1, 2), numbered(2, 1)
			write(t, d, 0, lasts)
			sync(t, d)
			write(t, d, 1, waits)
			wantErr(t, "Rot", d.Rot(1, place, 0xff), ok)
			lasts[size+place] ^= 0xff
			waits[place] ^= 0xff
			wantWaiting(t, d, 1)
			wantRead(t, d, 1, 1, waits)
			d.Restart([]int{fate})
			wantRead(t, d, 0, 2, slices.Concat(lasts[:size], waits[:fate], lasts[size+fate:]))
		}
	}
}

func TestRotWithoutPower(t *testing.T) {
	d := newDisk(t, 2)
	write(t, d, 1, all(7, 1))
	d.Kill()
	wantErr(t, "Rot", d.Rot(0, 5, 3), ok)
	wantErr(t, "Rot", d.Rot(1, 6, 4), ok)
	wantErr(t, "Rot", d.Rot(2, 6, 4), errArg)
	if !d.Dead() {
		t.Fatal("Rot gave power")
	}
	d.Restart([]int{10})
	want := slices.Concat(all(0, 1), of(7, 10), of(0, 54))
	want[5] ^= 3
	want[size+6] ^= 4
	wantRead(t, d, 0, 2, want)
}

// Each write is right again, and rot by 0 changes nothing.
func TestRotWrittenOver(t *testing.T) {
	d := newDisk(t, 1)
	write(t, d, 0, all(7, 1))
	wantErr(t, "Rot", d.Rot(0, 0, 1), ok)
	write(t, d, 0, all(7, 1))
	wantErr(t, "Rot", d.Rot(0, 1, 0), ok)
	wantRead(t, d, 0, 1, all(7, 1))
	d.Restart(nil)
	wantRead(t, d, 0, 1, append(of(1, 1), of(0, 63)...))
}

func TestRotRefused(t *testing.T) {
	const sectors = 3
	numbers := append(greatNumbers(), 0, 1, 2, 3, 62, 63, 64, 65)
	for _, at := range numbers {
		for _, place := range numbers {
			d := newDisk(t, sectors)
			write(t, d, 1, all(3, 1))
			want := errArg
			if at >= 0 && at < sectors && place >= 0 && place < size {
				want = ok
			}
			wantErr(t, fmt.Sprintf("Rot(%d, %d)", at, place), d.Rot(at, place, 1), want)
			whole := slices.Concat(all(0, 1), all(3, 1), all(0, 1))
			if want == ok {
				whole[at*size+place] ^= 1
			}
			wantRead(t, d, 0, sectors, whole)
		}
	}
}

func TestNil(t *testing.T) {
	var d *disk.Disk
	d.Fuse(0)
	d.Kill()
	d.Restart([]int{1})
	if d.Size() != 0 || d.Waiting() != 0 || d.Dead() {
		t.Error("Size, Waiting, Dead", d.Size(), d.Waiting(), d.Dead())
	}
	for _, at := range append(greatNumbers(), 0, 1) {
		wantErr(t, "Write", d.Write(at, nil), errNil)
		wantErr(t, "Write", d.Write(at, of(1, 65)), errNil)
		wantRefused(t, d, at, -1, errNil)
		wantRefused(t, d, 0, at, errNil)
		wantErr(t, "Rot", d.Rot(at, 0, 1), errNil)
		wantErr(t, "Rot", d.Rot(0, at, 1), errNil)
	}
	wantErr(t, "Sync", d.Sync(), errNil)
}

// A disk of the greatest size is written, torn, and synced as any other one.
func TestGreatest(t *testing.T) {
	d := newDisk(t, most)
	waits := numbered(1, most)
	write(t, d, 0, waits)
	wantWaiting(t, d, most)
	fates := make([]int, most)
	for i := range fates {
		fates[i] = 7 * i
	}
	d.Restart(fates)
	want := make([]byte, len(waits))
	for i := range most {
		copy(want[i*size:], waits[i*size:i*size+7*i%65])
	}
	wantRead(t, d, 0, most, want)
	write(t, d, most-1, all(9, 1))
	copy(want[(most-1)*size:], all(9, 1))
	sync(t, d)
	d.Restart(nil)
	wantRead(t, d, 0, most, want)
	wantErr(t, "Write", d.Write(most, all(1, 1)), errArg)
	wantErr(t, "Rot", d.Rot(most, 0, 1), errArg)
	wantErr(t, "Rot", d.Rot(most-1, 63, 1), ok)
}

// What a disk is asked hangs on that disk alone.
func TestDisksApart(t *testing.T) {
	a, b := newDisk(t, 3), newDisk(t, 3)
	write(t, a, 0, all(1, 2))
	wantWaiting(t, b, 0)
	a.Fuse(0)
	write(t, b, 1, all(2, 2))
	sync(t, b)
	wantErr(t, "Rot", a.Rot(2, 0, 1), ok)
	a.Kill()
	if b.Dead() {
		t.Error("one disk's power is the other's")
	}
	wantRead(t, b, 0, 3, append(all(0, 1), all(2, 2)...))
	a.Restart([]int{64})
	wantRead(t, a, 0, 3, slices.Concat(all(1, 1), all(0, 1), of(1, 1), of(0, 63)))
}

// roomy is a copy with room behind its end, filled, so that a write there shows.
func roomy[T any](list []T, filler T) []T { return withRoom(list, filler)[:len(list)] }

func withRoom[T any](list []T, filler T) []T {
	return slices.Concat(list, slices.Repeat([]T{filler}, room))
}

func TestArgumentsStay(t *testing.T) {
	d := newDisk(t, 3)
	b, fates := numbered(1, 2), []int{-1, 700, 3}
	bytesIn, fatesIn := roomy(b, 0xa5), roomy(fates, -77)
	write(t, d, 0, bytesIn)
	d.Rot(0, 0, 255)
	sync(t, d)
	write(t, d, 1, bytesIn)
	d.Rot(1, 1, 255)
	d.Restart(fatesIn)
	if !bytes.Equal(bytesIn[:len(b)+room], withRoom(b, 0xa5)) {
		t.Error("the bytes that were handed in are changed")
	}
	if !slices.Equal(fatesIn[:len(fates)+room], withRoom(fates, -77)) {
		t.Error("the fates that were handed in are changed")
	}
}

// scrawl writes over a list and the room behind it.
func scrawl(b []byte) {
	b = b[:cap(b)]
	for i := range b {
		b[i] ^= 0x5a
	}
}

func TestArgumentsNotKept(t *testing.T) {
	d := newDisk(t, 3)
	want := slices.Concat(all(0, 1), numbered(1, 2))
	b := roomy(numbered(1, 2), 0xa5)
	write(t, d, 1, b)
	scrawl(b)
	wantRead(t, d, 0, 3, want)
	sync(t, d)
	scrawl(b)
	wantRead(t, d, 0, 3, want)
	b = all(6, 1)
	write(t, d, 0, b)
	d.Restart([]int{64})
	scrawl(b)
	copy(want, all(6, 1))
	wantRead(t, d, 0, 3, want)
}

func TestAnswersTheirOwn(t *testing.T) {
	d := newDisk(t, 4)
	want := slices.Concat(all(0, 1), numbered(1, 3))
	write(t, d, 1, numbered(1, 1))
	sync(t, d)
	write(t, d, 2, want[2*size:])
	var answers [][]byte
	for at := range 5 {
		for count := range 5 - at {
			b, err := d.Read(at, count)
			wantErr(t, "Read", err, ok)
			answers = append(answers, b)
		}
	}
	first := slices.Clone(answers[4])
	for _, b := range slices.Concat(answers[:4], answers[5:]) {
		scrawl(b)
	}
	if !bytes.Equal(answers[4], first) {
		t.Error("two answers share memory")
	}
	scrawl(answers[4])
	wantRead(t, d, 0, 4, want)
	sync(t, d)
	wantRead(t, d, 0, 4, want)
	// An answer stays as it is, too, whatever is done to the disk.
	b, _ := d.Read(0, 4)
	write(t, d, 0, all(9, 4))
	d.Rot(1, 1, 1)
	sync(t, d)
	if !bytes.Equal(b, want) {
		t.Error("an answer was changed by a later call")
	}
}

// model is the chapter told over again: two rows of bytes, and which sectors wait.
type model struct {
	lasts, waits []byte
	waiting      []bool
	power        bool
	fuse         *int
}

func newModel(sectors int) *model {
	return &model{lasts: make([]byte, sectors*size), waits: make([]byte, sectors*size), waiting: make([]bool, sectors), power: true}
}

func (m *model) there(at, count int) bool {
	if at < 0 || at > len(m.waiting) || count < 0 || count > len(m.waiting) {
		return false
	}
	return at+count <= len(m.waiting)
}

func (m *model) burn() bool {
	if m.fuse == nil {
		return false
	}
	if *m.fuse == 0 {
		m.power, m.fuse = false, nil
		return true
	}
	*m.fuse--
	return false
}

func (m *model) write(at int, b []byte) api.Errno {
	if !m.power {
		return errDead
	}
	if len(b)%size != 0 {
		return errShape
	}
	if !m.there(at, len(b)/size) {
		return errArg
	}
	if m.burn() {
		return errDead
	}
	copy(m.waits[at*size:], b)
	for i := range len(b) / size {
		m.waiting[at+i] = true
	}
	return ok
}

func (m *model) reads() []byte {
	b := slices.Clone(m.lasts)
	for i := range b {
		if m.waiting[i/size] {
			b[i] = m.waits[i]
		}
	}
	return b
}

func (m *model) read(at, count int) ([]byte, api.Errno) {
	if !m.power {
		return nil, errDead
	}
	if !m.there(at, count) {
		return nil, errArg
	}
	return m.reads()[at*size : (at+count)*size], ok
}

func (m *model) sync() api.Errno {
	if !m.power || m.burn() {
		return errDead
	}
	m.lasts = m.reads()
	clear(m.waiting)
	return ok
}

func (m *model) lay(n int) {
	m.fuse = nil
	if n >= 0 {
		m.fuse = &n
	}
}

func (m *model) restart(fates []int) {
	met := 0
	for at := range m.waiting {
		if !m.waiting[at] {
			continue
		}
		if met < len(fates) {
			for i := range modulo65(fates[met]) {
				m.lasts[at*size+i] = m.waits[at*size+i]
			}
		}
		met++
	}
	clear(m.waiting)
	m.power, m.fuse = true, nil
}

func (m *model) rot(at, place int, by byte) api.Errno {
	if at < 0 || at >= len(m.waiting) || place < 0 || place > 63 {
		return errArg
	}
	m.lasts[at*size+place] ^= by
	m.waits[at*size+place] ^= by
	return ok
}

func (m *model) count() int {
	n := 0
	for _, w := range m.waiting {
		if w {
			n++
		}
	}
	return n
}

// call is a call of a disk; only what its kind needs is told.
type call struct {
	kind      int
	at, count int
	by        byte
	b         []byte
	fates     []int
}

const (
	callWrite = iota
	callRead
	callSync
	callFuse
	callKill
	callRestart
	callRot
	callKinds
)

// hold makes one call of a disk and of the model and holds the answers, and all that can be asked then, against each other.
func hold(tb testing.TB, d *disk.Disk, m *model, c call) {
	tb.Helper()
	var got, want api.Errno
	var gotBytes, wantBytes []byte
	switch c.kind {
	case callWrite:
		got, want = d.Write(c.at, c.b), m.write(c.at, c.b)
	case callRead:
		gotBytes, got = d.Read(c.at, c.count)
		wantBytes, want = m.read(c.at, c.count)
	case callSync:
		got, want = d.Sync(), m.sync()
	case callFuse:
		d.Fuse(c.count)
		m.lay(c.count)
	case callKill:
		d.Kill()
		m.power, m.fuse = false, nil
	case callRestart:
		d.Restart(c.fates)
		m.restart(c.fates)
	case callRot:
		got, want = d.Rot(c.at, c.count, c.by), m.rot(c.at, c.count, c.by)
	}
	if got != want || !bytes.Equal(gotBytes, wantBytes) {
		tb.Fatalf("%+v: %v, %v, want %v, %v", c, gotBytes, got, wantBytes, want)
	}
	holdState(tb, d, m, c)
}

func holdState(tb testing.TB, d *disk.Disk, m *model, c call) {
	tb.Helper()
	if d.Dead() == m.power || d.Waiting() != m.count() || d.Size() != len(m.waiting) {
		tb.Fatalf("behind %+v: Dead %v, Waiting %d, Size %d, want %v, %d, %d", c, d.Dead(), d.Waiting(), d.Size(), !m.power, m.count(), len(m.waiting))
	}
	got, err := d.Read(0, len(m.waiting))
	want, wantErr := m.read(0, len(m.waiting))
	if err != wantErr || !bytes.Equal(got, want) {
		tb.Fatalf("behind %+v: reads as %v, %v, want %v, %v", c, got, err, want, wantErr)
	}
}

// anyNumber is mostly from 0 to a bound, sometimes a little outside, sometimes far off.
func anyNumber(dice *rand.Rand, bound int) int {
	switch dice.IntN(12) {
	case 0:
		return pick(dice, greatNumbers())
	case 1:
		return bound + dice.IntN(3) - 1
	}
	return dice.IntN(bound + 1)
}

func anyBytes(dice *rand.Rand, length int) []byte {
	b := make([]byte, length)
	for i := range b {
		b[i] = byte(dice.UintN(256))
	}
	return b
}

func anyFates(dice *rand.Rand, sectors int) []int {
	fates := make([]int, dice.IntN(sectors+3))
	for i := range fates {
		switch dice.IntN(4) {
		case 0:
			fates[i] = int(dice.Uint64())
		case 1:
			fates[i] = 64 * dice.IntN(2)
		default:
			fates[i] = dice.IntN(65)
		}
	}
	return fates
}

func anyCall(dice *rand.Rand, sectors int) call {
	kind := pick(dice, []int{callWrite, callWrite, callWrite, callWrite, callRead, callSync, callFuse, callKill, callRestart, callRestart, callRot, callRot})
	c := call{kind: kind, at: anyNumber(dice, sectors), by: byte(dice.UintN(256))}
	switch kind {
	case callWrite:
		length := size * dice.IntN(min(sectors, 5)+1)
		if dice.IntN(15) == 0 {
			length += dice.IntN(size)
		}
		c.b = anyBytes(dice, length)
	case callRead:
		c.count = anyNumber(dice, sectors)
	case callFuse:
		c.count = anyNumber(dice, 6)
	case callRestart:
		c.fates = anyFates(dice, sectors)
	case callRot:
		c.count = anyNumber(dice, 63)
	}
	return c
}

func TestByDice(t *testing.T) {
	dice := newDice()
	for range 400 {
		sectors := 1 + dice.IntN(12)
		d, m := newDisk(t, sectors), newModel(sectors)
		for range 100 {
			hold(t, d, m, anyCall(dice, sectors))
		}
	}
}

// All short runs of some calls, on a disk of two sectors.
func TestAllShortRuns(t *testing.T) {
	calls := []call{
		{kind: callWrite, at: 0, b: numbered(1, 1)},
		{kind: callWrite, at: 0, b: numbered(2, 2)},
		{kind: callWrite, at: 2},
		{kind: callSync},
		{kind: callFuse, count: 0},
		{kind: callFuse, count: 1},
		{kind: callKill},
		{kind: callRestart, fates: []int{10, 64}},
		{kind: callRot, at: 0, count: 5, by: 9},
	}
	const length = 5
	runs := 1
	for range length {
		runs *= len(calls)
	}
	for run := range runs {
		d, m := newDisk(t, 2), newModel(2)
		for left, i := run, 0; i < length; i++ {
			hold(t, d, m, calls[left%len(calls)])
			left /= len(calls)
		}
		hold(t, d, m, call{kind: callRestart, fates: []int{64, 3}})
	}
}

// P14.8

// mixed tells whether a sector begins as one and ends as the other.
func mixed(s, begins, ends []byte) bool {
	for c := range size + 1 {
		if bytes.Equal(s[:c], begins[:c]) && bytes.Equal(s[c:], ends[c:]) {
			return true
		}
	}
	return false
}

func TestSyncedStays(t *testing.T) {
	dice := newDice()
	for range 300 {
		sectors := 1 + dice.IntN(10)
		d := newDisk(t, sectors)
		synced := anyBytes(dice, sectors*size)
		write(t, d, 0, synced)
		sync(t, d)
		for range 10 {
			touched := map[int]bool{}
			for range dice.IntN(5) {
				at := dice.IntN(sectors)
				write(t, d, at, anyBytes(dice, size))
				touched[at] = true
			}
			waited, _ := d.Read(0, sectors)
			lose(dice, d)
			d.Restart(anyFates(dice, sectors))
			now, err := d.Read(0, sectors)
			wantErr(t, "Read", err, ok)
			for at := range sectors {
				s, waits, lasts := now[at*size:(at+1)*size], waited[at*size:(at+1)*size], synced[at*size:(at+1)*size]
				if !touched[at] && !bytes.Equal(s, lasts) {
					t.Fatalf("sector %d was synced, and is changed: %v, want %v", at, s, lasts)
				}
				if !mixed(s, waits, lasts) {
					t.Fatalf("sector %d is none of its own: %v of %v and %v", at, s, waits, lasts)
				}
			}
			synced = now
		}
	}
}

// lose takes the power one way or the other, or not at all.
func lose(dice *rand.Rand, d *disk.Disk) {
	switch dice.IntN(4) {
	case 0:
		d.Kill()
	case 1:
		d.Fuse(0)
		d.Sync()
	case 2:
		d.Fuse(0)
		d.Write(0, of(0xee, d.Size()*size))
	}
}

// The same calls are answered the same, however often they are made: nothing hangs on the order in which a map is gone through.
func TestAlike(t *testing.T) {
	run := func() []byte {
		dice := newDice()
		d := newDisk(t, 200)
		for range 20 {
			for range 50 {
				write(t, d, dice.IntN(200), anyBytes(dice, size))
			}
			d.Restart(anyFates(dice, 50))
		}
		b, _ := d.Read(0, 200)
		return b
	}
	first := run()
	for range 5 {
		if !bytes.Equal(run(), first) {
			t.Fatal("the same calls came to other bytes")
		}
	}
}

// madeOf reads calls out of bytes, four at a time.
func madeOf(data []byte, sectors int) []call {
	var calls []call
	for ; len(data) >= 4; data = data[4:] {
		c := call{kind: int(data[0]) % callKinds, at: int(int8(data[1])), count: int(int8(data[2])), by: data[3]}
		switch c.kind {
		case callWrite:
			c.b = of(data[3], size*(int(data[2])%(sectors+1))+int(data[2])/200)
		case callRestart:
			c.fates = []int{c.at, c.count, int(int8(data[3])), c.at * c.count}
		}
		calls = append(calls, c)
	}
	return calls
}

func FuzzAll(f *testing.F) {
	f.Add([]byte{0, 1, 1, 7, 5, 10, 0, 0})
	f.Add([]byte{0, 0, 2, 7, 2, 0, 0, 0, 3, 0, 1, 0, 0, 1, 2, 9, 2, 0, 0, 0, 5, 64, 1, 9, 6, 1, 5, 3})
	f.Add([]byte{3, 0, 0, 0, 0, 5, 1, 1, 0, 0, 201, 1, 0, 0, 1, 1, 1, 0, 1, 0, 4, 0, 0, 0, 5, 255, 255, 255})
	f.Fuzz(func(t *testing.T, data []byte) {
		const sectors = 5
		d, m := newDisk(t, sectors), newModel(sectors)
		for _, c := range madeOf(data[:min(len(data), 4000)], sectors) {
			hold(t, d, m, c)
		}
	})
}
