package pack_test

import (
	"archive/tar"
	"bytes"
	"errors"
	"fmt"
	"io"
	"iter"
	"math"
	"math/rand/v2"
	"runtime"
	"slices"
	"strconv"
	"strings"
	"testing"
	"weak"

	"tabulary/api"
	"tabulary/head"
	"tabulary/name"
	"tabulary/pack"
	"tabulary/pax"
	"tabulary/tree"
)

const (
	isFile   = api.Kind(1)
	isFolder = api.Kind(2)
	isHard   = api.Kind(3)
	isSoft   = api.Kind(4)

	maxTime   = 1099511627776
	maxVolume = 131072
)

func newDice() *rand.Rand { return rand.New(rand.NewPCG(12, 11)) }

func pick[T any](dice *rand.Rand, from []T) T { return from[dice.IntN(len(from))] }

func file(path string, body ...byte) api.Item {
	return api.Item{Path: path, Kind: isFile, Mode: 420, Time: 7, Body: body}
}

// filled is a file of so many bytes, none of which is a nought.
func filled(path string, size int) api.Item {
	return file(path, bytes.Repeat([]byte{0xEE}, size)...)
}

func folder(path string) api.Item { return api.Item{Path: path, Kind: isFolder, Mode: 493, Time: 9} }

func hard(path, to string) api.Item { return api.Item{Path: path, Kind: isHard, To: to} }

func soft(path, to string) api.Item { return api.Item{Path: path, Kind: isSoft, Time: 5, To: to} }

// of is a text of so many bytes, all the same.
func of(letter string, size int) string { return strings.Repeat(letter, size) }

// small has all kinds.
func small() []api.Item {
	return []api.Item{folder("a"), file("a/f", 1, 2, 3), hard("a/h", "a/f"), soft("a/s", "f"), soft("l", "a")}
}

// long has Paths and Tos of which heads have too little room, and some that just fit.
func long() []api.Item {
	p, q, r := of("p", 100), of("q", 110), of("r", 120)
	return []api.Item{
		folder(p), folder(p + "/" + q), filled(p+"/"+q+"/f", 700), folder(p + "/" + q + "/" + r),
		hard(p+"/u", p+"/"+q+"/f"), soft(p+"/v", of("x", 100)), soft(p+"/w", of("x", 101)),
		folder(q), filled(q+"/"+of("n", 100), 1), filled(q+"/"+of("n", 101), 513), soft(q+"/"+of("o", 101), q+"/"+of("n", 101)),
		hard(r, q+"/"+of("n", 101)), soft("z", of("./", 200)),
	}
}

// row are so many folders, rising.
func row(count int) []api.Item {
	t := []api.Item{}
	for at := range count {
		t = append(t, folder(fmt.Sprintf("d%05d", at)))
	}
	return t
}

// paths tells a list's Paths, cut short, with kinds and how many bytes the Bodies have.
func paths(t []api.Item) string {
	all := []string{}
	for _, it := range t {
		all = append(all, fmt.Sprintf("%.20s(%d) %d %d", it.Path, len(it.Path), it.Kind, len(it.Body)))
	}
	return strings.Join(all, ", ")
}

// What follows tells the chapter, and what it asks of the layers below, over again.

// field is layer 7's form.
func field(n, width int) string {
	if text := strconv.FormatInt(int64(n), 8); len(text) < width {
		return of("0", width-1-len(text)) + text + "\x00"
	}
	b := make([]byte, width)
	for at := width - 1; at > 0; at-- {
		b[at] = byte(n)
		n >>= 8
	}
	b[0] = 0x80
	return string(b)
}

// nulled is a text with noughts behind it.
func nulled(text string, width int) string { return text + of("\x00", width-len(text)) }

// headText are layer 10's bytes of a head.
func headText(h api.Head) string {
	ahead := nulled(h.Name, 100) + field(h.Mode, 8) + field(0, 8) + field(0, 8) + field(h.Size, 12) + field(h.Time, 12)
	behind := string(rune(h.Type)) + nulled(h.Link, 100) + "ustar\x0000" + nulled("", 64) + field(0, 8) + field(0, 8) + nulled(h.Prefix, 155) + nulled("", 12)
	sum := 8 * 0x20
	for _, c := range []byte(ahead + behind) {
		sum += int(c)
	}
	return ahead + field(sum, 7) + " " + behind
}

// recordText is layer 9's record.
func recordText(key, value string) string {
	for size := 0; ; size++ {
		if text := fmt.Sprintf("%d %s=%s\n", size, key, value); len(text) == size {
			return text
		}
	}
}

// cut is layer 8's Split of a path: each stroke is tried.
func cut(path string) (string, string, bool) {
	if len(path) <= 100 {
		return "", path, true
	}
	for at := len(path) - 1; at >= 0; at-- {
		if path[at] == '/' && at <= 155 && len(path)-at-1 <= 100 {
			return path[:at], path[at+1:], true
		}
	}
	return "", "", false
}

// pairs are the Words' pairs of an item that may be.
func pairs(it api.Item) []api.Pair {
	l := []api.Pair{}
	if (it.Kind == isHard || it.Kind == isSoft) && len(it.To) > 100 {
		l = append(l, api.Pair{Key: "linkpath", Value: it.To})
	}
	if _, _, ok := cut(it.Path); !ok {
		l = append(l, api.Pair{Key: "path", Value: it.Path})
	}
	return l
}

// fill is the Words' filled.
func fill(text string) string {
	return text + of("\x00", (512-len(text)%512)%512)
}

// ownHead is the head of an item that may be.
func ownHead(it api.Item) api.Head {
	h := api.Head{Mode: it.Mode, Time: it.Time, Size: len(it.Body), Type: " 0512"[it.Kind]}
	h.Prefix, h.Name, _ = cut(it.Path)
	if len(it.To) <= 100 {
		h.Link = it.To
	}
	return h
}

// pieces are the Words' pieces of an item that may be.
func pieces(it api.Item) string {
	text, records := "", ""
	for _, p := range pairs(it) {
		records += recordText(p.Key, p.Value)
	}
	if records != "" {
		text = headText(api.Head{Name: "more", Type: 'x', Size: len(records)}) + fill(records)
	}
	return text + headText(ownHead(it)) + fill(string(it.Body))
}

// volume is P12.2.
func volume(t []api.Item) ([]byte, int, api.Errno) {
	if at, err := tree.Check(t); err != api.OK {
		return nil, at, err
	}
	b := []byte{}
	for at, it := range t {
		b = append(b, pieces(it)...)
		if len(b)+1024 > maxVolume {
			return nil, at, api.ErrLong
		}
	}
	return append(b, make([]byte, 1024)...), 0, api.OK
}

// differ tells where bytes differ, for a report.
func differ(a, b []byte) string {
	for at := range min(len(a), len(b)) {
		if a[at] != b[at] {
			return fmt.Sprintf("%d and %d bytes, %02x and %02x at %d", len(a), len(b), a[at], b[at], at)
		}
	}
	return fmt.Sprintf("%d and %d bytes", len(a), len(b))
}

// gathered are all the bytes that are gone over.
func gathered(tb testing.TB, blocks iter.Seq[[]byte]) []byte {
	tb.Helper()
	b := []byte{}
	for piece := range blocks {
		if len(piece) != 512 {
			tb.Fatalf("Blocks: one of %d bytes", len(piece))
		}
		b = append(b, piece...)
	}
	return b
}

// holdCalls holds Write, Size and Blocks against the model.
func holdCalls(tb testing.TB, t []api.Item) {
	tb.Helper()
	want, wantAt, wantErr := volume(t)
	b, at, err := pack.Write(t)
	if err != wantErr || at != wantAt || !bytes.Equal(b, want) {
		tb.Fatalf("Write(%s) = %d, %v, not %d, %v; %s", paths(t), at, err, wantAt, wantErr, differ(b, want))
	}
	if size, err := pack.Size(t); size != len(want) || err != wantErr {
		tb.Fatalf("Size(%s) = %d, %v, not %d, %v", paths(t), size, err, len(want), wantErr)
	}
	blocks := pack.Blocks(t)
	for range 2 {
		if b := gathered(tb, blocks); !bytes.Equal(b, want) {
			tb.Fatalf("Blocks(%s): %s", paths(t), differ(b, want))
		}
	}
}

// holdPairs holds Pairs against the model.
func holdPairs(tb testing.TB, it api.Item) {
	tb.Helper()
	want, wantErr := []api.Pair{}, tree.May(it)
	if wantErr == api.OK {
		want = pairs(it)
	}
	if l, err := pack.Pairs(it); err != wantErr || !slices.Equal(l, want) {
		tb.Fatalf("Pairs(%s) = %v, %v, not %v, %v", paths([]api.Item{it}), l, err, want, wantErr)
	}
}

// holdWriter adds a list's items, one behind the other, refused ones too, and holds each answer against the model.
func holdWriter(tb testing.TB, t []api.Item) {
	tb.Helper()
	w := pack.New()
	added := []api.Item{}
	b, _, _ := volume(added)
	for at, it := range t {
		with, _, wantErr := volume(append(slices.Clone(added), it))
		if err := w.Add(it); err != wantErr {
			tb.Fatalf("Add at %d of %s = %v, not %v", at, paths(t), err, wantErr)
		}
		if wantErr == api.OK {
			added, b = append(added, it), with
		}
		if w.Len() != len(b)-1024 {
			tb.Fatalf("Len behind %d of %s = %d, not %d", at, paths(t), w.Len(), len(b)-1024)
		}
	}
	if v, err := w.Close(); err != api.OK || !bytes.Equal(v, b) {
		tb.Fatalf("Close of %s = %v; %s", paths(added), err, differ(v, b))
	}
	holdClosed(tb, w, len(b)-1024)
}

// holdClosed holds what a closed writer answers: it stays as it is.
func holdClosed(tb testing.TB, w *pack.Writer, size int) {
	tb.Helper()
	for range 2 {
		if err := w.Add(file("zzz")); err != api.ErrState {
			tb.Fatalf("Add to a closed writer = %v", err)
		}
		if err := w.Add(api.Item{}); err != api.ErrState {
			tb.Fatalf("Add of no item to a closed writer = %v", err)
		}
		if b, err := w.Close(); len(b) != 0 || err != api.ErrState {
			tb.Fatalf("Close of a closed writer = %d bytes, %v", len(b), err)
		}
		if w.Len() != size {
			tb.Fatalf("Len of a closed writer = %d, not %d", w.Len(), size)
		}
	}
}

// hold holds all calls against the model.
func hold(tb testing.TB, t []api.Item) {
	tb.Helper()
	holdCalls(tb, t)
	holdWriter(tb, t)
	for _, it := range t {
		holdPairs(tb, it)
	}
}

// The texts of which items are made by dice: of lengths at which paths are cut otherwise.
var (
	names  = []string{"a", "b", "a-b", "..a", "\xff", "\u00e9", of("c", 54), of("d", 55), of("e", 99), of("f", 100), of("g", 101), of("h", 120)}
	leads  = []string{"a", "b/..", "a//b", "x\n=y", of("x", 99), of("x", 100), of("x", 101), of("x", 400), of("./", 50), of("a/", 60)}
	bodies = []int{0, 0, 1, 3, 511, 512, 513, 1024, 1025, 5000}
	great  = []int{0, 30000, 65023, 65024, 65025, 65535, 65536}
	times  = []int{0, 1, 1 << 32, 1<<33 - 1, 1 << 33, maxTime - 1, maxTime}
	modes  = []int{0, 1, 420, 493, 4095}
)

// bodyOf is a Body by dice, noughts at its end among them.
func bodyOf(dice *rand.Rand, size int) []byte {
	b := make([]byte, size)
	for at := range b {
		b[at] = byte(dice.IntN(4) * 85)
	}
	return b
}

// anyItem may be.
func anyItem(dice *rand.Rand, t []api.Item, path string) api.Item {
	files := slices.DeleteFunc(slices.Clone(t), func(it api.Item) bool { return it.Kind != isFile })
	switch dice.IntN(6) {
	case 0:
		return api.Item{Path: path, Kind: isSoft, Time: pick(dice, times), To: pick(dice, leads)}
	case 1:
		if len(files) > 0 {
			return hard(path, pick(dice, files).Path)
		}
		fallthrough
	case 2, 3:
		return api.Item{Path: path, Kind: isFolder, Mode: pick(dice, modes), Time: pick(dice, times)}
	}
	size := pick(dice, bodies)
	if dice.IntN(5) == 0 {
		size = pick(dice, great)
	}
	return api.Item{Path: path, Kind: isFile, Mode: pick(dice, modes), Time: pick(dice, times), Body: bodyOf(dice, size)}
}

// grown is a tree of up to so many items. It may have no volume.
func grown(dice *rand.Rand, most int) []api.Item {
	t := []api.Item{}
	for range most {
		path := pick(dice, names)
		if len(t) > 0 && dice.IntN(3) > 0 {
			path = pick(dice, t).Path + "/" + path
		}
		if _, err := tree.Find(t, path); err == api.OK {
			continue
		}
		if u, err := tree.With(t, anyItem(dice, t, path)); err == api.OK {
			t = u
		}
	}
	return t
}

// spoiled has one thing changed somewhere: mostly it is no tree any more.
func spoiled(dice *rand.Rand, t []api.Item) []api.Item {
	if len(t) == 0 {
		return t
	}
	u := slices.Clone(t)
	at := dice.IntN(len(u))
	it := &u[at]
	switch dice.IntN(8) {
	case 0:
		it.Path = pick(dice, []string{"", "a/", "..", "a\x00", of("p", 121), of("a/", 200) + "a", "a/b/c"})
	case 1:
		it.Kind = pick(dice, []api.Kind{0, 1, 2, 3, 4, 5, 255})
	case 2:
		it.Mode = pick(dice, []int{-1, 4096, math.MinInt, math.MaxInt})
	case 3:
		it.Time = pick(dice, []int{-1, maxTime + 1, math.MinInt, math.MaxInt})
	case 4:
		it.Body = make([]byte, pick(dice, []int{1, 65536, 65537}))
	case 5:
		it.To = pick(dice, []string{"", "/a", of("../", 9), "a\x00", of("x", 401), "no"})
	case 6:
		other := dice.IntN(len(u))
		u[at], u[other] = u[other], u[at]
	case 7:
		u = slices.Delete(u, at, at+1)
	}
	return u
}

func TestExamples(t *testing.T) {
	if b, at, err := pack.Write(nil); !bytes.Equal(b, make([]byte, 1024)) || at != 0 || err != api.OK {
		t.Errorf("Write of no items = %d bytes, %d, %v", len(b), at, err)
	}
	path := of("n", 101)
	cutPath := of("x", 90) + "/" + of("y", 90)
	for _, c := range []struct {
		it   api.Item
		size int
	}{{filled("a", 3), 2048}, {filled("a", 512), 2048}, {filled("a", 513), 2560}, {folder("a"), 1536}, {file(path), 2560}, {filled("a", 65536), 67072}} {
		if size, err := pack.Size([]api.Item{c.it}); size != c.size || err != api.OK {
			t.Errorf("Size(%s) = %d, %v, not %d", paths([]api.Item{c.it}), size, err, c.size)
		}
	}
	if l, err := pack.Pairs(file(path)); len(l) != 1 || l[0] != (api.Pair{Key: "path", Value: path}) || err != api.OK {
		t.Errorf("Pairs of 101 bytes = %v, %v", l, err)
	}
	if l, err := pack.Pairs(file(cutPath)); len(l) != 0 || err != api.OK {
		t.Errorf("Pairs of a path that can be cut = %v, %v", l, err)
	}
	for _, c := range []struct {
		t   []api.Item
		at  int
		err api.Errno
	}{{[]api.Item{filled("a", 65536), filled("b", 65536)}, 1, api.ErrLong}, {[]api.Item{file("a/b")}, 0, api.ErrParent}} {
		if b, at, err := pack.Write(c.t); len(b) != 0 || at != c.at || err != c.err {
			t.Errorf("Write(%s) = %d bytes, %d, %v, not %d, %v", paths(c.t), len(b), at, err, c.at, c.err)
		}
	}
}

func TestExampleOfWriter(t *testing.T) {
	w := pack.New()
	if w.Len() != 0 {
		t.Errorf("Len of a new writer = %d", w.Len())
	}
	for _, c := range []struct {
		it  api.Item
		err api.Errno
	}{{file("a/b"), api.ErrParent}, {folder("a"), api.OK}, {file("a/b"), api.OK}} {
		if err := w.Add(c.it); err != c.err {
			t.Errorf("Add(%s) = %v, not %v", c.it.Path, err, c.err)
		}
	}
	if w.Len() != 1024 {
		t.Errorf("Len = %d", w.Len())
	}
	if b, err := w.Close(); len(b) != 2048 || err != api.OK {
		t.Errorf("Close = %d bytes, %v", len(b), err)
	}
	if b, err := w.Close(); len(b) != 0 || err != api.ErrState {
		t.Errorf("Close = %d bytes, %v", len(b), err)
	}
}

// The third example of the whole: a folder and a file of three bytes.
func TestExampleOfWhole(t *testing.T) {
	b, _, err := pack.Write([]api.Item{folder("a"), file("a/f", 1, 2, 3)})
	if len(b) != 2560 || err != api.OK {
		t.Errorf("Write = %d bytes, %v", len(b), err)
	}
}

// What stands in a volume byte by byte, written out: nothing of it is worked out by the model.
func TestBytesWrittenOut(t *testing.T) {
	b, _, err := pack.Write([]api.Item{{Path: "a", Kind: isFile, Mode: 420, Body: []byte{1, 2, 3}}, {Path: of("l", 101), Kind: isSoft, Time: 8, To: of("m", 101)}})
	if err != api.OK || len(b) != 512*7 {
		t.Fatalf("Write = %d bytes, %v", len(b), err)
	}
	for _, c := range []struct {
		at   int
		text string
	}{
		{0, "a" + of("\x00", 99) + "0000644\x000000000\x000000000\x0000000000003\x0000000000000\x00007341\x00 0\x00"},
		{158, of("\x00", 99) + "ustar\x0000" + of("\x00", 64) + "0000000\x000000000\x00" + of("\x00", 167)},
		{512, "\x01\x02\x03" + of("\x00", 509)},
		{1024, "more" + of("\x00", 96) + "0000000\x000000000\x000000000\x0000000000342\x0000000000000\x00"},
		{1024 + 156, "x" + of("\x00", 100) + "ustar\x0000" + of("\x00", 64) + "0000000\x000000000\x00" + of("\x00", 167)},
		{1536, "115 linkpath=" + of("m", 101) + "\n111 path=" + of("l", 101) + "\n" + of("\x00", 286)},
		{2048, of("\x00", 100) + "0000000\x000000000\x000000000\x0000000000000\x0000000000010\x00"},
		{2048 + 156, "2" + of("\x00", 100) + "ustar\x0000" + of("\x00", 64) + "0000000\x000000000\x00" + of("\x00", 167)},
		{2560, of("\x00", 1024)},
	} {
		if got := string(b[c.at : c.at+len(c.text)]); got != c.text {
			t.Errorf("at %d: %q, not %q", c.at, got, c.text)
		}
	}
}

// P12.1, at the lengths where pairs begin, of each kind.
func TestPairs(t *testing.T) {
	all := []string{"a", of("n", 100), of("n", 101), of("n", 120), of("n", 121), "", "a/../b", "a\x00b"}
	for _, ahead := range []int{1, 54, 55, 99, 100, 101, 120} {
		for _, behind := range []int{1, 45, 99, 100, 101, 120} {
			all = append(all, of("u", ahead)+"/"+of("v", behind))
			all = append(all, of("t", 100)+"/"+of("u", ahead)+"/"+of("v", behind))
			all = append(all, of("s", 120)+"/"+of("t", 34)+"/"+of("u", ahead)+"/"+of("v", behind))
		}
	}
	for _, path := range append(all, of("n/", 200), of("n/", 199)+"no", of("n/", 200)+"n") {
		for _, it := range []api.Item{file(path), folder(path)} {
			holdPairs(t, it)
		}
		for _, to := range append(all, leads...) {
			holdPairs(t, hard(path, to))
			holdPairs(t, soft(path, to))
		}
	}
}

// P12.1: both pairs of one item, linkpath ahead, whatever the bytes of them are.
func TestBothPairs(t *testing.T) {
	path, to := of("p", 101), "\xff\n=\x01"+of("t", 97)
	want := []api.Pair{{Key: "linkpath", Value: to}, {Key: "path", Value: path}}
	for _, it := range []api.Item{hard(path, to), soft(path, to)} {
		if l, err := pack.Pairs(it); err != api.OK || !slices.Equal(l, want) {
			t.Errorf("Pairs = %q, %v", l, err)
		}
	}
}

// P12.1: of wrong items the error, and nothing beside it.
func TestPairsOfWrongItems(t *testing.T) {
	path := of("p", 110)
	for _, c := range []struct {
		it  api.Item
		err api.Errno
	}{
		{api.Item{}, api.ErrEmpty},
		{file(of("p", 121)), api.ErrLong},
		{file("a/./b"), api.ErrDots},
		{file("a\x00"), api.ErrNul},
		{api.Item{Path: path}, api.ErrArg},
		{api.Item{Path: path, Kind: 5}, api.ErrArg},
		{api.Item{Path: path, Kind: 255}, api.ErrArg},
		{api.Item{Path: path, Kind: isFile, Mode: 4096}, api.ErrArg},
		{api.Item{Path: path, Kind: isFile, Time: -1}, api.ErrArg},
		{api.Item{Path: path, Kind: isFile, To: of("t", 110)}, api.ErrItem},
		{api.Item{Path: path, Kind: isFolder, To: of("t", 110)}, api.ErrItem},
		{api.Item{Path: path, Kind: isFolder, Body: []byte{0}}, api.ErrItem},
		{filled(path, 65537), api.ErrLong},
		{hard(path, ""), api.ErrEmpty},
		{hard(path, of("t", 121)), api.ErrLong},
		{soft(path, ""), api.ErrEmpty},
		{soft(path, of("t", 401)), api.ErrLong},
		{soft(path, "../a"), api.ErrAway},
		{soft(path, "/a"), api.ErrAway},
	} {
		if l, err := pack.Pairs(c.it); len(l) != 0 || err != c.err {
			t.Errorf("Pairs(%+v) = %v, %v, not %v", c.it, l, err, c.err)
		}
		if b, at, err := pack.Write([]api.Item{c.it}); len(b) != 0 || at != 0 || err != c.err {
			t.Errorf("Write(%+v) = %d bytes, %d, %v, not %v", c.it, len(b), at, err, c.err)
		}
		if err := pack.New().Add(c.it); err != c.err {
			t.Errorf("Add(%+v) = %v, not %v", c.it, err, c.err)
		}
	}
}

// What the other tests lean on: their trees have volumes, and those by dice have all that items may have.
func TestTreesOfTests(t *testing.T) {
	for _, x := range [][]api.Item{nil, small(), long(), row(254)} {
		if at, err := tree.Check(x); err != api.OK {
			t.Errorf("%s: %v at %d", paths(x), err, at)
		}
		if _, at, err := volume(x); err != api.OK {
			t.Errorf("%s: %v at %d", paths(x), err, at)
		}
	}
	dice := newDice()
	met := map[string]int{}
	for range 600 {
		x := grown(dice, dice.IntN(30))
		_, _, err := volume(x)
		met[fmt.Sprint("volume ", err)]++
		for _, it := range x {
			prefix, _, _ := cut(it.Path)
			met[fmt.Sprint("kind ", it.Kind)]++
			met[fmt.Sprint("cut ", prefix != "")]++
			met[fmt.Sprint(len(pairs(it)), " pairs")]++
		}
	}
	for _, what := range []string{"volume error 0", "volume error 2", "kind 1", "kind 2", "kind 3", "kind 4", "cut true", "0 pairs", "1 pairs", "2 pairs"} {
		if met[what] < 20 {
			t.Errorf("%s: %d times alone", what, met[what])
		}
	}
}

// All calls on trees by hand, and on each list that has one item of them less, or two in each other's place.
func TestByHand(t *testing.T) {
	for _, x := range [][]api.Item{nil, {folder("a")}, small(), long(), row(20)} {
		hold(t, x)
		for at := range x {
			hold(t, slices.Delete(slices.Clone(x), at, at+1))
			other := slices.Clone(x)
			other[0], other[at] = other[at], other[0]
			hold(t, other)
		}
	}
}

// All calls on trees by dice, and on spoiled ones.
func TestByDice(t *testing.T) {
	dice := newDice()
	for range 600 {
		x := grown(dice, dice.IntN(30))
		hold(t, x)
		hold(t, spoiled(dice, x))
		hold(t, spoiled(dice, spoiled(dice, x)))
	}
}

// Each length of a Body up to three blocks, and at each bound.
func TestFilled(t *testing.T) {
	sizes := []int{65023, 65024, 65025, 65535, 65536}
	for size := range 1540 {
		sizes = append(sizes, size)
	}
	for _, size := range sizes {
		x := []api.Item{filled("a", size), folder("b")}
		b, _, err := pack.Write(x)
		whole := (size + 511) / 512 * 512
		if err != api.OK || len(b) != 512+whole+512+1024 || !bytes.Equal(b[512:512+size], x[0].Body) || len(bytes.Trim(b[512+size:512+whole], "\x00")) != 0 {
			t.Fatalf("Write of a Body of %d = %d bytes, %v", size, len(b), err)
		}
		if want, _, _ := volume(x); !bytes.Equal(b, want) {
			t.Fatalf("Write of a Body of %d: %s", size, differ(b, want))
		}
	}
}

// Records of each length: those that just fill a block, and those one byte past it.
func TestRecordsFilled(t *testing.T) {
	for size := 101; size <= 400; size++ {
		for _, path := range []string{"l", of("p", 101), of("p", 120)} {
			holdCalls(t, []api.Item{soft(path, of("x", size))})
		}
	}
	deep := []api.Item{}
	for _, size := range []int{120, 241, 362} {
		path := of("a", 120)
		for len(path) < size {
			path += "/" + of("a", 120)
		}
		deep = append(deep, folder(path))
	}
	if _, err := tree.Check(deep); err != api.OK {
		t.Fatalf("no tree: %v", err)
	}
	for size := 1; size < 38; size++ {
		path := deep[2].Path + "/" + of("z", size)
		holdCalls(t, append(slices.Clone(deep), filled(path, 3)))
		holdCalls(t, append(slices.Clone(deep), soft(path, of("y", 400))))
	}
}

// P12.2: the heads of all kinds, with the numbers' bounds.
func TestHeads(t *testing.T) {
	for _, c := range []struct {
		it   api.Item
		want api.Head
	}{
		{api.Item{Path: "f", Kind: isFile, Mode: 4095, Time: maxTime, Body: []byte{0}}, api.Head{Name: "f", Type: '0', Mode: 4095, Time: maxTime, Size: 1}},
		{filled("f", 65536), api.Head{Name: "f", Type: '0', Mode: 420, Time: 7, Size: 65536}},
		{api.Item{Path: "d", Kind: isFolder, Mode: 1023, Time: 1 << 33}, api.Head{Name: "d", Type: '5', Mode: 1023, Time: 1 << 33}},
		{api.Item{Path: "s", Kind: isSoft, Time: 1<<33 - 1, To: "d/.."}, api.Head{Name: "s", Type: '2', Time: 1<<33 - 1, Link: "d/.."}},
		{soft("s", of("x", 100)), api.Head{Name: "s", Type: '2', Time: 5, Link: of("x", 100)}},
		{api.Item{Path: of("n", 100), Kind: isFile}, api.Head{Name: of("n", 100), Type: '0'}},
	} {
		b, _, err := pack.Write([]api.Item{c.it})
		if err != api.OK {
			t.Fatalf("Write(%s) = %v", paths([]api.Item{c.it}), err)
		}
		if h, err := head.Get(b[:512]); h != c.want || err != api.OK {
			t.Errorf("head of %s = %+v, %v, not %+v", paths([]api.Item{c.it}), h, err, c.want)
		}
	}
	b, _, err := pack.Write([]api.Item{file("f"), hard("h", "f")})
	if h, e := head.Get(b[512:1024]); err != api.OK || e != api.OK || h != (api.Head{Name: "h", Type: '1', Link: "f"}) {
		t.Errorf("head of a hard link = %+v, %v, %v", h, err, e)
	}
}

// P12.2: trees whose volume has just as many bytes as may be, and one block more, at each place.
func TestLong(t *testing.T) {
	full := []api.Item{filled("a", 65536), filled("b", 63488)}
	for _, c := range []struct {
		t   []api.Item
		at  int
		err api.Errno
	}{
		{full, 0, api.OK},
		{[]api.Item{filled("a", 65536), filled("b", 63489)}, 1, api.ErrLong},
		{append(slices.Clone(full), folder("c")), 2, api.ErrLong},
		{append(slices.Clone(full), folder("c"), folder("d")), 2, api.ErrLong},
		{[]api.Item{filled("a", 65536), filled("b", 65536), filled("c", 65536), folder("d")}, 1, api.ErrLong},
		{[]api.Item{filled("a", 65536), filled("b", 62976), folder("c")}, 0, api.OK},
		{[]api.Item{filled("a", 65536), filled("b", 62977), folder("c")}, 2, api.ErrLong},
		{[]api.Item{filled("a", 65536), filled("b", 61952), file(of("c", 101))}, 0, api.OK},
		{[]api.Item{filled("a", 65536), filled("b", 61953), file(of("c", 101))}, 2, api.ErrLong},
		{[]api.Item{filled("a", 65536), filled("b", 61952), soft("l", of("c", 101))}, 0, api.OK},
		{[]api.Item{filled("a", 65536), filled("b", 61953), soft("l", of("c", 101))}, 2, api.ErrLong},
		{row(254), 0, api.OK},
		{row(255), 254, api.ErrLong},
		{row(256), 254, api.ErrLong},
		{row(257), 256, api.ErrFull},
		{row(400), 256, api.ErrFull},
	} {
		b, at, err := pack.Write(c.t)
		if at != c.at || err != c.err || err != api.OK && len(b) != 0 || err == api.OK && len(b) != maxVolume {
			t.Errorf("Write of %d = %d bytes, %d, %v, not %d, %v", len(c.t), len(b), at, err, c.at, c.err)
		}
		holdCalls(t, c.t)
		holdWriter(t, c.t)
	}
}

// P12.2: what Check answers goes ahead of a volume that is too long, wherever it is met.
func TestWrongAheadOfLong(t *testing.T) {
	ahead := []api.Item{filled("a", 65536), filled("b", 65536), filled("c", 65536)}
	for _, c := range []struct {
		it  api.Item
		err api.Errno
	}{
		{api.Item{Path: "d", Kind: 9}, api.ErrArg},
		{folder("c"), api.ErrSorted},
		{folder("x/y"), api.ErrParent},
		{hard("d", "e"), api.ErrHard},
		{api.Item{}, api.ErrEmpty},
		{filled("d", 65537), api.ErrLong},
	} {
		x := append(slices.Clone(ahead), c.it)
		if b, at, err := pack.Write(x); len(b) != 0 || at != 3 || err != c.err {
			t.Errorf("Write(%s) = %d bytes, %d, %v, not 3, %v", paths(x), len(b), at, err, c.err)
		}
		holdCalls(t, x)
		w := pack.New()
		w.Add(ahead[0])
		if err := w.Add(filled("b", 65536)); err != api.ErrLong {
			t.Errorf("Add = %v", err)
		}
		if err := w.Add(api.Item{Path: "a", Kind: isFile, Body: ahead[0].Body}); err != api.ErrSorted {
			t.Errorf("Add of what is wrong and too long = %v", err)
		}
	}
}

// P12.4: stopped behind each count of blocks, and gone over again afterwards.
func TestBlocksStopped(t *testing.T) {
	for _, x := range [][]api.Item{nil, small(), long()} {
		want, _, _ := volume(x)
		blocks := pack.Blocks(x)
		for stop := range len(want)/512 + 1 {
			var b []byte
			for piece := range blocks {
				if b = append(b, piece...); len(b) >= 512*stop {
					break
				}
			}
			if !bytes.Equal(b, want[:512*max(stop, 1)]) {
				t.Fatalf("stopped behind %d: %s", stop, differ(b, want))
			}
			if b := gathered(t, blocks); !bytes.Equal(b, want) {
				t.Fatalf("gone over again behind %d: %s", stop, differ(b, want))
			}
		}
	}
}

// P12.4: called by hand, so that a block handed over behind a false would be seen.
func TestBlocksAskedNoMore(t *testing.T) {
	count := len(gathered(t, pack.Blocks(small()))) / 512
	for stop := 1; stop <= count; stop++ {
		calls := 0
		pack.Blocks(small())(func([]byte) bool {
			calls++
			return calls < stop
		})
		if calls != stop {
			t.Errorf("%d blocks handed over, not %d", calls, stop)
		}
	}
}

// P12.4: two goings over one volume, side by side and within one another.
func TestBlocksSideBySide(t *testing.T) {
	want, _, _ := volume(long())
	blocks := pack.Blocks(long())
	next, stop := iter.Pull(blocks)
	defer stop()
	at := 0
	for piece := range blocks {
		other, ok := next()
		if !ok || !bytes.Equal(piece, want[at:at+512]) || !bytes.Equal(other, want[at:at+512]) {
			t.Fatalf("at %d: other blocks", at)
		}
		if b := gathered(t, blocks); at%4096 == 0 && !bytes.Equal(b, want) {
			t.Fatalf("within, at %d: %s", at, differ(b, want))
		}
		at += 512
	}
	if _, ok := next(); ok || at != len(want) {
		t.Errorf("behind the end at %d: %v", at, ok)
	}
}

// P12.4: of what has no volume there is nothing, and it can be gone over.
func TestBlocksOfNoTree(t *testing.T) {
	for _, x := range [][]api.Item{{file("a/b")}, {{}}, row(255), row(257), {filled("a", 65536), filled("b", 65536)}, {filled("a", 65537)}} {
		blocks := pack.Blocks(x)
		for range 2 {
			for piece := range blocks {
				t.Fatalf("Blocks(%s): one of %d bytes", paths(x), len(piece))
			}
		}
	}
}

func TestNil(t *testing.T) {
	var w *pack.Writer
	for _, it := range []api.Item{{}, folder("a"), file("a/b")} {
		if err := w.Add(it); err != api.ErrNil {
			t.Errorf("Add to nil = %v", err)
		}
	}
	if w.Len() != 0 {
		t.Errorf("Len of nil = %d", w.Len())
	}
	if b, err := w.Close(); len(b) != 0 || err != api.ErrNil {
		t.Errorf("Close of nil = %d bytes, %v", len(b), err)
	}
}

// P12.5: a writer of no items, and one to which none could be added.
func TestEmptyWriter(t *testing.T) {
	holdWriter(t, nil)
	holdWriter(t, []api.Item{{}, file("a/b"), hard("h", "f"), filled("a", 65537)})
}

// P12.5: what was refused can be added when its folder is there; what was refused as too long leaves its room to others.
func TestRefusedLeavesNothing(t *testing.T) {
	w := pack.New()
	x := []api.Item{filled("a", 65536), filled("b", 60000)}
	for _, it := range x {
		if err := w.Add(it); err != api.OK {
			t.Fatalf("Add(%s) = %v", it.Path, err)
		}
	}
	size := w.Len()
	for range 3 {
		for _, c := range []struct {
			it  api.Item
			err api.Errno
		}{{filled("c", 65536), api.ErrLong}, {file("d/e"), api.ErrParent}, {filled("c", 3000), api.ErrLong}, {hard("c", "c"), api.ErrHard}, {file("b"), api.ErrSorted}} {
			if err := w.Add(c.it); err != c.err || w.Len() != size {
				t.Fatalf("Add(%s) = %v, Len %d, not %v, %d", c.it.Path, err, w.Len(), c.err, size)
			}
		}
	}
	x = append(x, filled("c", 2048), folder("d"))
	for _, it := range x[2:] {
		if err := w.Add(it); err != api.OK {
			t.Fatalf("Add(%s) = %v", it.Path, err)
		}
	}
	want, _, _ := volume(x)
	if b, err := w.Close(); err != api.OK || !bytes.Equal(b, want) {
		t.Errorf("Close = %v; %s", err, differ(b, want))
	}
}

// P12.5: hard links to files that were added long ago, and items in folders of then.
func TestWriterRemembers(t *testing.T) {
	x := []api.Item{file("a", 1), folder("b"), folder("b/c")}
	for at := range 100 {
		x = append(x, hard(fmt.Sprintf("b/c/%03d", at), "a"))
	}
	x = append(x, file("b/d"), hard("b/e", "b/d"), hard("b/f", "b/c/000"), hard("b/g", "b"), file("b/c/z"), file("c"))
	holdWriter(t, x)
}

// R2: writers do not see one another, nor what other calls did.
func TestWritersApart(t *testing.T) {
	x, y := small(), long()
	v, w := pack.New(), pack.New()
	for at := range max(len(x), len(y)) {
		if at < len(x) {
			v.Add(x[at])
		}
		pack.Write(row(300))
		if at < len(y) {
			w.Add(y[at])
		}
		v.Add(api.Item{})
	}
	for _, c := range []struct {
		w *pack.Writer
		t []api.Item
	}{{v, x}, {w, y}} {
		want, _, _ := volume(c.t)
		if b, err := c.w.Close(); err != api.OK || !bytes.Equal(b, want) {
			t.Errorf("Close = %v; %s", err, differ(b, want))
		}
	}
	hold(t, x)
}

// shape is P12.6: the heads of a volume but those of TypeMore, gone over by their Sizes alone.
func shape(tb testing.TB, b []byte) []api.Head {
	tb.Helper()
	if len(b)%512 != 0 || len(b) < 1024 || len(bytes.Trim(b[len(b)-1024:], "\x00")) != 0 {
		tb.Fatalf("a volume of %d bytes", len(b))
	}
	l := []api.Head{}
	at := 0
	for at < len(b)-1024 {
		h, err := head.Get(b[at : at+512])
		if err != api.OK {
			tb.Fatalf("head at %d: %v", at, err)
		}
		if h.Type != api.TypeMore {
			l = append(l, h)
		}
		at += 512 + (h.Size+511)/512*512
	}
	if at != len(b)-1024 {
		tb.Fatalf("the heads lead to %d of %d", at, len(b))
	}
	return l
}

// P12.6, on trees by dice.
func TestShape(t *testing.T) {
	dice := newDice()
	for range 300 {
		x := grown(dice, dice.IntN(30))
		b, _, err := pack.Write(x)
		if err != api.OK {
			continue
		}
		l := shape(t, b)
		if len(l) != len(x) {
			t.Fatalf("%d heads of %d items", len(l), len(x))
		}
		for at, it := range x {
			if l[at] != ownHead(it) {
				t.Fatalf("head %d of %s = %+v, not %+v", at, paths(x), l[at], ownHead(it))
			}
		}
	}
}

// P12.6: the records behind a head of TypeMore are layer 9's of the item's Pairs.
func TestRecordsAhead(t *testing.T) {
	for _, it := range []api.Item{file(of("p", 101)), soft("l", of("x", 101)), soft(of("p", 120), of("x", 400)), folder(of("p", 110))} {
		b, _, err := pack.Write([]api.Item{it})
		if err != api.OK {
			t.Fatalf("Write = %v", err)
		}
		h, err := head.Get(b[:512])
		if err != api.OK || h != (api.Head{Name: "more", Type: 'x', Size: h.Size}) {
			t.Fatalf("the first head = %+v, %v", h, err)
		}
		l, _, err := pax.Get(b[512 : 512+h.Size])
		own, _ := pack.Pairs(it)
		if err != api.OK || !slices.Equal(l, own) {
			t.Errorf("records = %v, %v, not %v", l, err, own)
		}
	}
}

// P12.7: each beginning of a tree.
func TestBeginnings(t *testing.T) {
	dice := newDice()
	lists := [][]api.Item{small(), long(), row(254)}
	for range 60 {
		lists = append(lists, grown(dice, 25))
	}
	for _, x := range lists {
		b, _, err := pack.Write(x)
		if err != api.OK {
			continue
		}
		for count := range x {
			v, _, err := pack.Write(x[:count])
			if err != api.OK || !bytes.HasPrefix(b, v[:len(v)-1024]) {
				t.Fatalf("the first %d of %s: %v", count, paths(x), err)
			}
		}
	}
}

// P12.7: of all trees of up to three small items, no two have one volume.
func TestUnlike(t *testing.T) {
	some := []api.Item{
		folder("a"), file("a"), file("a", 0), file("a", 0, 0), {Path: "a", Kind: isFile}, {Path: "a", Kind: isFile, Mode: 1}, {Path: "a", Kind: isFile, Time: 1},
		file("a/b"), file("a/b", 1), soft("a/b", "a"), soft("a/b", ".."), soft("a", "a"), soft("a", "./a"), {Path: "a", Kind: isSoft, To: "a"}, hard("a/c", "a/b"),
		file("b"), hard("b", "a"), hard("b", "a/b"), folder("b"), soft("b", of("x", 100)), soft("b", of("x", 101)), soft("b", of("x", 102)),
		file(of("b", 100)), file(of("b", 101)), file(of("b", 102)), folder(of("b", 101)), soft(of("b", 101), of("x", 101)), hard(of("b", 101), "a"),
	}
	seen := map[string]string{}
	put := func(x []api.Item) {
		b, _, err := pack.Write(x)
		if err != api.OK {
			return
		}
		if other, ok := seen[string(b)]; ok {
			t.Errorf("one volume: %s and %+v", other, x)
		}
		seen[string(b)] = fmt.Sprintf("%+v", x)
	}
	put(nil)
	for _, one := range some {
		put([]api.Item{one})
		for _, two := range some {
			put([]api.Item{one, two})
			for _, three := range some {
				put([]api.Item{one, two, three})
			}
		}
	}
	if len(seen) < 200 {
		t.Errorf("%d trees alone", len(seen))
	}
}

// read reads a volume by the library's reader of archives, which knows nothing of this program.
func read(tb testing.TB, b []byte) []api.Item {
	tb.Helper()
	kinds := map[byte]api.Kind{tar.TypeReg: isFile, tar.TypeDir: isFolder, tar.TypeLink: isHard, tar.TypeSymlink: isSoft}
	t := []api.Item{}
	from := tar.NewReader(bytes.NewReader(b))
	for {
		h, err := from.Next()
		if errors.Is(err, io.EOF) {
			return t
		}
		if err != nil {
			tb.Fatalf("the library's reader: %v", err)
		}
		body, err := io.ReadAll(from)
		if err != nil {
			tb.Fatalf("the library's reader: %v", err)
		}
		t = append(t, api.Item{Path: h.Name, Kind: kinds[h.Typeflag], Mode: int(h.Mode), Time: int(h.ModTime.Unix()), Body: body, To: h.Linkname})
	}
}

// P8, as far as it is this layer's: others read a volume as the tree.
func TestReadByOthers(t *testing.T) {
	dice := newDice()
	lists := [][]api.Item{nil, small(), long(), row(254)}
	for range 200 {
		lists = append(lists, grown(dice, 25))
	}
	for _, x := range lists {
		b, _, err := pack.Write(x)
		if err != api.OK {
			continue
		}
		if u := read(t, b); !tree.Same(u, x) {
			t.Fatalf("%s is read as %s", paths(x), paths(u))
		}
	}
}

// walled is a copy of a list between other items, and with room behind its Bodies' ends.
func walled(t []api.Item) []api.Item {
	wall := api.Item{Path: "wall", To: "wall", Body: []byte{0xB5, 0xB6}}
	u := []api.Item{wall}
	for _, it := range t {
		it.Body = append(bytes.Clone(it.Body), 0xC7, 0xC8, 0xC9)[:len(it.Body)]
		u = append(u, it)
	}
	return append(u, wall, wall)[1 : 1+len(t)]
}

// whole is a list with the room behind its end, and its Bodies likewise.
func whole(t []api.Item) []api.Item {
	u := slices.Clone(t[:cap(t)])
	for at := range u {
		u[at].Body = bytes.Clone(u[at].Body[:cap(u[at].Body)])
	}
	return u
}

// scrawl writes all over a list and its Bodies, and the room behind their ends.
func scrawl(t []api.Item) {
	t = t[:cap(t)]
	for at := range t {
		scrawlBytes(t[at].Body)
		t[at] = api.Item{Path: "scrawl", To: "scrawl"}
	}
}

func scrawlBytes(b []byte) {
	b = b[:cap(b)]
	for at := range b {
		b[at] = 0xA5
	}
}

// P12.8: arguments stay as they were, with the room behind their ends.
func TestArgumentsStay(t *testing.T) {
	for _, start := range [][]api.Item{nil, small(), long(), small()[1:], row(255), {filled("a", 65536), filled("b", 65536)}} {
		x := walled(start)
		before := whole(x)
		for _, quiet := range []func(){
			func() { pack.Write(x) },
			func() { pack.Size(x) },
			func() { gathered(t, pack.Blocks(x)) },
			func() {
				w := pack.New()
				for _, it := range x {
					pack.Pairs(it)
					w.Add(it)
				}
				b, _ := w.Close()
				scrawlBytes(b)
			},
			func() {
				b, _, _ := pack.Write(x)
				scrawlBytes(b)
				for piece := range pack.Blocks(x) {
					scrawlBytes(piece)
				}
			},
		} {
			quiet()
			if !tree.Same(whole(x), before) {
				t.Fatalf("%s: what was handed in is another", paths(start))
			}
		}
	}
}

// P12.8: arguments are not kept. What was answered, and what a writer or a volume's blocks answer later, is as if they had stayed.
func TestArgumentsNotKept(t *testing.T) {
	for _, start := range [][]api.Item{small(), long()} {
		want, _, _ := volume(start)
		x := walled(start)
		b, _, _ := pack.Write(x)
		blocks := pack.Blocks(x)
		w := pack.New()
		for at := range x {
			one := walled(x[at : at+1])
			if err := w.Add(one[0]); err != api.OK {
				t.Fatalf("Add = %v", err)
			}
			scrawl(one)
		}
		next, stop := iter.Pull(blocks)
		first, _ := next()
		scrawl(x)
		if !bytes.Equal(b, want) {
			t.Errorf("Write keeps what it was handed: %s", differ(b, want))
		}
		for rest, ok := next(); ok; rest, ok = next() {
			first = append(first, rest...)
		}
		stop()
		if !bytes.Equal(first, want) || !bytes.Equal(gathered(t, blocks), want) {
			t.Errorf("Blocks keeps what it was handed")
		}
		if v, err := w.Close(); err != api.OK || !bytes.Equal(v, want) {
			t.Errorf("a writer keeps what it was handed: %v; %s", err, differ(v, want))
		}
	}
}

// P12.8: no one holds a Body any more that the caller let go, be the writer open, or blocks still to be gone over.
func TestBodiesLetGo(t *testing.T) {
	w := pack.New()
	var blocks iter.Seq[[]byte]
	for what, take := range map[string]func(api.Item){
		"Add":    func(it api.Item) { w.Add(it) },
		"Blocks": func(it api.Item) { blocks = pack.Blocks([]api.Item{it}) },
		"Write":  func(it api.Item) { pack.Write([]api.Item{it}) },
	} {
		handedIn := func() weak.Pointer[[5000]byte] {
			body := new([5000]byte)
			take(api.Item{Path: "a", Kind: isFile, Body: body[:]})
			return weak.Make(body)
		}()
		for range 3 {
			runtime.GC()
		}
		if handedIn.Value() != nil {
			t.Errorf("%s keeps a Body", what)
		}
	}
	if w.Len() != 512+5120 || len(gathered(t, blocks)) != 512+5120+1024 {
		t.Error("the Body was not taken")
	}
}

// P12.8: answers are the caller's own, with the room behind their ends.
func TestAnswersTheirOwn(t *testing.T) {
	x := long()
	want, _, _ := volume(x)
	first, _, _ := pack.Write(x)
	second, _, _ := pack.Write(x)
	scrawlBytes(first)
	if third, _, _ := pack.Write(x); !bytes.Equal(second, want) || !bytes.Equal(third, want) {
		t.Error("two answers of Write share memory")
	}
	blocks := pack.Blocks(x)
	kept := [][]byte{}
	for piece := range blocks {
		kept = append(kept, piece)
	}
	for at, piece := range kept {
		scrawlBytes(piece)
		_ = append(piece, 0xA6)
		if at+1 < len(kept) && !bytes.Equal(slices.Concat(kept[at+1:]...), want[512*(at+1):]) {
			t.Fatalf("block %d shares memory with another", at)
		}
	}
	if b := gathered(t, blocks); !bytes.Equal(b, want) {
		t.Errorf("gone over again, behind what was written into the blocks: %s", differ(b, want))
	}
	one, _ := pack.Pairs(soft(of("p", 101), of("x", 101)))
	two, _ := pack.Pairs(soft(of("p", 101), of("x", 101)))
	one[0], one[1] = api.Pair{}, api.Pair{}
	if two[0].Key != "linkpath" || two[1].Key != "path" {
		t.Error("two answers of Pairs share memory")
	}
}

// P12.8: blocks that are written over while they are gone over.
func TestBlocksWrittenOver(t *testing.T) {
	for _, x := range [][]api.Item{nil, small(), long()} {
		want, _, _ := volume(x)
		blocks := pack.Blocks(x)
		for range 2 {
			b := []byte{}
			for piece := range blocks {
				b = append(b, piece...)
				scrawlBytes(piece)
			}
			if !bytes.Equal(b, want) {
				t.Fatalf("Blocks(%s): %s", paths(x), differ(b, want))
			}
		}
	}
}

// P12.8: Bodies that lie in one another are written each as it is.
func TestBodiesInOneAnother(t *testing.T) {
	one := bytes.Repeat([]byte{1, 2, 3, 4, 5, 6, 7}, 300)
	x := []api.Item{file("a"), file("b"), file("c"), file("d")}
	x[0].Body, x[1].Body, x[2].Body, x[3].Body = one[:700], one[500:1200], one, one[:0]
	hold(t, x)
	if !bytes.Equal(one, bytes.Repeat([]byte{1, 2, 3, 4, 5, 6, 7}, 300)) {
		t.Error("the Bodies are others")
	}
}

// R1: great lists and texts, and numbers without end, are answered as others are.
func TestGreat(t *testing.T) {
	text := of("a/", 1<<21)
	for _, x := range [][]api.Item{
		{{Path: text, Kind: isFile}},
		{{Path: "a", Kind: isHard, To: text}},
		{{Path: "a", Kind: isSoft, To: text}},
		{{Path: "a", Kind: isFile, Body: make([]byte, 1<<24)}},
		{{Path: "a", Kind: isFolder, Mode: math.MinInt, Time: math.MaxInt}},
		{{Path: "a", Kind: isFile, Mode: math.MaxInt, Time: math.MinInt}},
	} {
		hold(t, x)
	}
	holdCalls(t, row(50000))
}

// As many hard links as may be, so that all are held against all.
func TestManyLinks(t *testing.T) {
	x := []api.Item{file("a")}
	for at := range 300 {
		x = append(x, hard(fmt.Sprintf("h%03d", at), "a"))
	}
	holdCalls(t, x[:254])
	holdWriter(t, x[:256])
}

// madeOf reads items out of bytes: of few texts, or of the bytes themselves.
func madeOf(data []byte) []api.Item {
	t := []api.Item{}
	take := func() int {
		if len(data) == 0 {
			return 0
		}
		c := data[0]
		data = data[1:]
		return int(c)
	}
	text := func(from []string) string {
		n := take()
		if n < 200 {
			return from[n%len(from)]
		}
		n = min(n-200, len(data))
		s := string(data[:n])
		data = data[n:]
		return s
	}
	for len(data) > 0 && len(t) < 300 {
		it := api.Item{Kind: api.Kind(take() % 6), Path: text(names)}
		for range take() % 4 {
			it.Path += "/" + text(names)
		}
		it.Mode = pickAt(modes, take())
		it.Time = pickAt(times, take())
		it.Body = bytes.Repeat([]byte{7}, pickAt(append(bodies, great...), take()))
		if it.Kind != isFile {
			it.Body = it.Body[:min(len(it.Body), take()%20/19)]
		}
		it.To = text(append(leads, "", "a", "b"))
		if it.Kind < isHard {
			it.To = ""
		} else {
			it.Mode = 0
		}
		t = append(t, it)
	}
	return t
}

func pickAt(from []int, at int) int { return from[at%len(from)] }

func FuzzAll(f *testing.F) {
	f.Add([]byte{})
	f.Add([]byte{2, 0, 0, 0, 0, 0, 0, 12, 1, 0, 1, 1, 0, 0, 2, 12, 3, 0, 1, 2, 0, 0, 0, 7})
	f.Add([]byte{2, 10, 0, 1, 1, 0, 0, 12, 4, 10, 1, 11, 0, 1, 0, 2, 4, 1, 0, 0, 0, 0, 0})
	f.Add([]byte{4, 201, 'x', 0, 0, 0, 0, 203, '.', '.', 0})
	f.Add(bytes.Repeat([]byte{1, 0, 0, 0, 0, 16, 12}, 5))
	f.Fuzz(func(t *testing.T, data []byte) {
		x := madeOf(data)
		for _, u := range [][]api.Item{x, tree.Sort(x)} {
			hold(t, u)
		}
		grow := []api.Item{}
		for _, it := range x {
			if u, err := tree.With(grow, it); err == api.OK {
				grow = u
			}
		}
		hold(t, grow)
		if b, _, err := pack.Write(grow); err == api.OK {
			if u := read(t, b); !tree.Same(u, grow) {
				t.Fatalf("%s is read as %s", paths(grow), paths(u))
			}
		}
	})
}

// cut, which the model leans on, is layer 8's Split.
func TestModelCuts(t *testing.T) {
	for _, one := range names {
		for _, two := range names {
			for _, path := range []string{one, one + "/" + two, one + "/" + two + "/" + one, one + "/" + two + "/" + one + "/" + two} {
				prefix, last, err := name.Split(path)
				wantPrefix, wantLast, ok := cut(path)
				if _, wrong := name.Check(path); wrong == api.OK && (prefix != wantPrefix || last != wantLast || (err == api.OK) != ok) {
					t.Fatalf("Split(%q) = %q, %q, %v, not %q, %q", path, prefix, last, err, wantPrefix, wantLast)
				}
			}
		}
	}
}
