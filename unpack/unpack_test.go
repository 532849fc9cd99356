package unpack_test

import (
	"archive/tar"
	"bytes"
	"fmt"
	"math/rand/v2"
	"runtime"
	"slices"
	"strings"
	"testing"
	"time"
	"weak"

	"tabulary/api"
	"tabulary/head"
	"tabulary/name"
	"tabulary/pack"
	"tabulary/pax"
	"tabulary/tree"
	"tabulary/unpack"
)

const (
	isFile   = api.Kind(1)
	isFolder = api.Kind(2)
	isHard   = api.Kind(3)
	isSoft   = api.Kind(4)

	maxTime   = 1099511627776
	maxVolume = 131072

	// endSize is how many noughts stand at a volume's end.
	endSize = 1024
)

func newDice() *rand.Rand { return rand.New(rand.NewPCG(13, 12)) }

func pick[T any](dice *rand.Rand, from []T) T { return from[dice.IntN(len(from))] }

func file(path string, body ...byte) api.Item {
	return api.Item{Path: path, Kind: isFile, Mode: 420, Time: 7, Body: body}
}

// filled is a file of so many bytes, none of which is a nought.
func filled(path string, size int) api.Item {
	return file(path, bytes.Repeat([]byte{0xEE}, size)...)
}

func folder(path string) api.Item { return api.Item{Path: path, Kind: isFolder, Mode: 493, Time: 9} }

func hard(path, to string) api.Item { return api.Item{Path: path, Kind: isHard, To: to} }

func soft(path, to string) api.Item { return api.Item{Path: path, Kind: isSoft, Time: 5, To: to} }

// of is a text of so many bytes, all the same.
func of(letter string, size int) string { return strings.Repeat(letter, size) }

// two is the tree of the chapter's examples.
func two() []api.Item { return []api.Item{folder("a"), file("a/f", 1, 2, 3)} }

// small has all kinds.
func small() []api.Item {
	return []api.Item{folder("a"), file("a/f", 1, 2, 3), hard("a/h", "a/f"), soft("a/s", "f"), soft("l", "a")}
}

// long has Paths and Tos of which heads have too little room, some that just fit, and Bodies of noughts.
func long() []api.Item {
	p, q, r := of("p", 100), of("q", 110), of("r", 120)
	return []api.Item{
		folder(p), folder(p + "/" + q), filled(p+"/"+q+"/f", 700), folder(p + "/" + q + "/" + r),
		hard(p+"/u", p+"/"+q+"/f"), soft(p+"/v", of("x", 100)), soft(p+"/w", of("x", 101)),
		folder(q), filled(q+"/"+of("n", 100), 1), filled(q+"/"+of("n", 101), 513), soft(q+"/"+of("o", 101), q+"/"+of("n", 101)),
		hard(r, q+"/"+of("n", 101)), file("y", make([]byte, 1500)...), soft("z", of("./", 200)),
	}
}

// row are so many folders, rising.
func row(count int) []api.Item {
	t := []api.Item{}
	for at := range count {
		t = append(t, folder(fmt.Sprintf("d%05d", at)))
	}
	return t
}

// paths tells a list's Paths, cut short, with kinds and how many bytes the Bodies have.
func paths(t []api.Item) string {
	all := []string{}
	for _, it := range t {
		all = append(all, fmt.Sprintf("%.20q(%d) %d %d", it.Path, len(it.Path), it.Kind, len(it.Body)))
	}
	return strings.Join(all, ", ")
}

// volumeOf is a tree's volume.
func volumeOf(tb testing.TB, t []api.Item) []byte {
	tb.Helper()
	v, at, err := pack.Write(t)
	if err != api.OK {
		tb.Fatalf("Write(%s) = %d, %v", paths(t), at, err)
	}
	return v
}

// noughts are so many bytes 00.
func noughts(count int) string { return of("\x00", count) }

// end is what stands at a volume's end.
func end() string { return noughts(endSize) }

// fill brings a text to the next multiple of 512.
func fill(text string) string { return text + noughts((512-len(text)%512)%512) }

// bare are the bytes of a head.
func bare(h api.Head) string {
	b, err := head.Put(h)
	if err != api.OK {
		panic(err)
	}
	return string(b)
}

// entry is a head with a Name and a type, and a Body behind it.
func entry(path string, kind byte, body string) string {
	return bare(api.Head{Name: path, Type: kind, Size: len(body)}) + fill(body)
}

// moreOf is a head of TypeMore, and any text as its records.
func moreOf(text string) string { return bare(api.Head{Type: 'x', Size: len(text)}) + fill(text) }

// more is a head of TypeMore, and the records of keys and values.
func more(texts ...string) string {
	l := []api.Pair{}
	for at := 0; at < len(texts); at += 2 {
		l = append(l, api.Pair{Key: texts[at], Value: texts[at+1]})
	}
	b, _, err := pax.Put(l)
	if err != api.OK {
		panic(err)
	}
	return moreOf(string(b))
}

// What follows tells the chapter over again.

// met is an item, and where it was met.
type met struct {
	it api.Item
	at int
}

// fault is an error, and where it is.
type fault struct {
	at  int
	err api.Errno
}

// modelFilled is the chapter's "what is filled": how many bytes it has, and what is wrong with it.
func modelFilled(text string, from, size int) (int, fault) {
	count := size
	for count%512 != 0 {
		count++
	}
	if count > len(text)-from {
		return 0, fault{from, api.ErrCut}
	}
	pad := text[from+size : from+count]
	if rest := strings.TrimLeft(pad, "\x00"); rest != "" {
		return 0, fault{from + count - len(rest), api.ErrTail}
	}
	return count, fault{}
}

// modelEnd is the chapter's rule 2.
func modelEnd(text string, at int, held bool) fault {
	behind := text[at+512:]
	switch {
	case held:
		return fault{at, api.ErrTwo}
	case len(behind) < 512:
		return fault{at + 512, api.ErrCut}
	case behind[:512] != noughts(512):
		return fault{at + 512, api.ErrTail}
	case len(behind) > 512:
		return fault{at + 1024, api.ErrTail}
	}
	return fault{}
}

// modelMore is the chapter's rule 4: the records, how many bytes are filled, or what is wrong.
func modelMore(text string, at, size int, held bool) (map[string]string, int, fault) {
	if held {
		return nil, 0, fault{at, api.ErrTwo}
	}
	count, wrong := modelFilled(text, at+512, size)
	if wrong.err != api.OK {
		return nil, 0, wrong
	}
	l, within, err := pax.Get([]byte(text[at+512 : at+512+size]))
	if err != api.OK {
		return nil, 0, fault{at + 512 + within, err}
	}
	records := map[string]string{}
	for _, p := range l {
		records[p.Key] = p.Value
		if !slices.Contains([]string{"path", "linkpath"}, p.Key) {
			return nil, 0, fault{at + 512, api.ErrKey}
		}
	}
	return records, count, fault{}
}

// modelItem is the chapter's rule 5, but for the Body.
func modelItem(h api.Head, records map[string]string) api.Item {
	it := api.Item{Path: head.Full(h), Kind: api.Kind(strings.IndexByte(" 0512", h.Type)), Mode: h.Mode, Time: h.Time, To: h.Link}
	if path, ok := records["path"]; ok {
		it.Path = path
	}
	if to, ok := records["linkpath"]; ok {
		it.To = to
	}
	return it
}

// modelReading is the chapter's reading.
func modelReading(text string) ([]met, fault) {
	all := []met{}
	var records map[string]string
	for at := 0; ; {
		if len(text)-at < 512 {
			return nil, fault{at, api.ErrCut}
		}
		if text[at:at+512] == noughts(512) {
			return all, modelEnd(text, at, records != nil)
		}
		h, err := head.Get([]byte(text[at : at+512]))
		if err != api.OK {
			return nil, fault{at, err}
		}
		if h.Type == 'x' {
			got, count, wrong := modelMore(text, at, h.Size, records != nil)
			if wrong.err != api.OK {
				return nil, wrong
			}
			records = got
			at += 512 + count
			continue
		}
		it := modelItem(h, records)
		if it.Kind != isFile && h.Size > 0 {
			return nil, fault{at, api.ErrItem}
		}
		count, wrong := modelFilled(text, at+512, h.Size)
		if wrong.err != api.OK {
			return nil, wrong
		}
		it.Body = []byte(text[at+512 : at+512+h.Size])
		all = append(all, met{it, at})
		records = nil
		at += 512 + count
	}
}

// modelRead is P13.1.
func modelRead(b []byte) ([]api.Item, int, api.Errno) {
	if len(b) > maxVolume {
		return nil, 0, api.ErrLong
	}
	all, wrong := modelReading(string(b))
	if wrong.err != api.OK {
		return nil, wrong.at, wrong.err
	}
	sorted := []met{}
	for _, one := range all {
		place := len(sorted)
		for place > 0 && name.Compare(sorted[place-1].it.Path, one.it.Path) > 0 {
			place--
		}
		sorted = slices.Insert(sorted, place, one)
	}
	t := []api.Item{}
	for _, one := range sorted {
		t = append(t, one.it)
	}
	if at, err := tree.Check(t); err != api.OK {
		return nil, sorted[at].at, err
	}
	return t, 0, api.OK
}

// modelExact is P13.2.
func modelExact(b []byte) ([]api.Item, int, api.Errno) {
	t, at, err := modelRead(b)
	if err != api.OK {
		return nil, at, err
	}
	v, _, err := pack.Write(t)
	if err != api.OK {
		return nil, 0, api.ErrForm
	}
	for at := range min(len(b), len(v)) {
		if b[at] != v[at] {
			return nil, at, api.ErrForm
		}
	}
	if len(b) != len(v) {
		return nil, min(len(b), len(v)), api.ErrForm
	}
	return t, 0, api.OK
}

// answer is what Read, Exact and Close answer.
type answer struct {
	t   []api.Item
	at  int
	err api.Errno
}

func answered(t []api.Item, at int, err api.Errno) answer { return answer{t, at, err} }

func (a answer) String() string { return fmt.Sprintf("[%s], %d, %v", paths(a.t), a.at, a.err) }

func (a answer) same(b answer) bool { return a.at == b.at && a.err == b.err && tree.Same(a.t, b.t) }

// holdRead holds Read and Exact against the model.
func holdRead(tb testing.TB, b []byte) answer {
	tb.Helper()
	got, want := answered(unpack.Read(b)), answered(modelRead(b))
	if !got.same(want) {
		tb.Fatalf("Read of %d bytes = %v, not %v", len(b), got, want)
	}
	if exact, want := answered(unpack.Exact(b)), answered(modelExact(b)); !exact.same(want) {
		tb.Fatalf("Exact of %d bytes = %v, not %v", len(b), exact, want)
	}
	return got
}

// holdFed feeds bytes in pieces that end at the places told, and holds each answer against Read.
func holdFed(tb testing.TB, b []byte, ends ...int) {
	tb.Helper()
	r := unpack.New()
	from := 0
	for _, to := range append(slices.Clone(ends), len(b)) {
		err := r.Feed(b[from:to])
		if to > maxVolume {
			if err != api.ErrLong || r.Len() != from {
				tb.Fatalf("Feed of %d to %d = %v, Len %d", from, to, err, r.Len())
			}
			return
		}
		if err != api.OK || r.Len() != to {
			tb.Fatalf("Feed of %d to %d = %v, Len %d", from, to, err, r.Len())
		}
		from = to
	}
	want := answered(unpack.Read(b))
	if got := answered(r.Close()); !got.same(want) {
		tb.Fatalf("Close of %d bytes, cut at %v = %v, not %v", len(b), ends, got, want)
	}
	holdClosed(tb, r, len(b))
}

// holdClosed holds what a closed reader answers: it stays as it is.
func holdClosed(tb testing.TB, r *unpack.Reader, size int) {
	tb.Helper()
	for range 2 {
		for _, piece := range [][]byte{nil, {1}, make([]byte, maxVolume+1)} {
			if err := r.Feed(piece); err != api.ErrState {
				tb.Fatalf("Feed to a closed reader = %v", err)
			}
		}
		if got := answered(r.Close()); !got.same(answer{err: api.ErrState}) {
			tb.Fatalf("Close of a closed reader = %v", got)
		}
		if r.Len() != size {
			tb.Fatalf("Len of a closed reader = %d, not %d", r.Len(), size)
		}
	}
}

// someEnds are places at which bytes are cut, by dice; some twice.
func someEnds(dice *rand.Rand, size int) []int {
	ends := []int{}
	for range dice.IntN(6) {
		ends = append(ends, dice.IntN(size+1))
	}
	slices.Sort(ends)
	return ends
}

// The texts of which items are made by dice: of lengths at which paths are cut otherwise.
var (
	names  = []string{"a", "b", "a-b", "..a", "\xff", "\u00e9", of("c", 54), of("d", 55), of("e", 99), of("f", 100), of("g", 101), of("h", 120)}
	leads  = []string{"a", "b/..", "a//b", "x\n=y", of("x", 99), of("x", 100), of("x", 101), of("x", 400), of("./", 50), of("a/", 60)}
	bodies = []int{0, 0, 1, 3, 511, 512, 513, 1024, 1025, 5000}
	great  = []int{0, 30000, 65023, 65024, 65025, 65535, 65536}
	times  = []int{0, 1, 1 << 32, 1<<33 - 1, 1 << 33, maxTime - 1, maxTime}
	modes  = []int{0, 1, 420, 493, 4095}
)

// bodyOf is a Body by dice, noughts at its end among them.
func bodyOf(dice *rand.Rand, size int) []byte {
	b := make([]byte, size)
	for at := range b {
		b[at] = byte(dice.IntN(4) * 85)
	}
	return b
}

// anyItem may be.
func anyItem(dice *rand.Rand, t []api.Item, path string) api.Item {
	files := slices.DeleteFunc(slices.Clone(t), func(it api.Item) bool { return it.Kind != isFile })
	switch dice.IntN(6) {
	case 0:
		return api.Item{Path: path, Kind: isSoft, Time: pick(dice, times), To: pick(dice, leads)}
	case 1:
		if len(files) > 0 {
			return hard(path, pick(dice, files).Path)
		}
		fallthrough
	case 2, 3:
		return api.Item{Path: path, Kind: isFolder, Mode: pick(dice, modes), Time: pick(dice, times)}
	}
	size := pick(dice, bodies)
	if dice.IntN(9) == 0 {
		size = pick(dice, great)
	}
	return api.Item{Path: path, Kind: isFile, Mode: pick(dice, modes), Time: pick(dice, times), Body: bodyOf(dice, size)}
}

// grown is a tree of up to so many items that has a volume, and the volume.
func grown(dice *rand.Rand, most int) ([]api.Item, []byte) {
	t := []api.Item{}
	v, _, _ := pack.Write(t)
	for range most {
		path := pick(dice, names)
		if len(t) > 0 && dice.IntN(3) > 0 {
			path = pick(dice, t).Path + "/" + path
		}
		if _, err := tree.Find(t, path); err == api.OK {
			continue
		}
		u, err := tree.With(t, anyItem(dice, t, path))
		if err != api.OK {
			continue
		}
		if w, _, err := pack.Write(u); err == api.OK {
			t, v = u, w
		}
	}
	return t, v
}

// piecesOf are the pieces of a tree's items, each item's in one.
func piecesOf(tb testing.TB, t []api.Item) []string {
	tb.Helper()
	v := string(volumeOf(tb, t))
	l := []string{}
	for count := range t {
		size, err := pack.Size(t[:count+1])
		if err != api.OK {
			tb.Fatalf("Size of %d = %v", count, err)
		}
		ahead := len(strings.Join(l, ""))
		l = append(l, v[ahead:size-endSize])
	}
	return l
}

func TestExamples(t *testing.T) {
	v := string(volumeOf(t, two()))
	if len(v) != 2560 {
		t.Fatalf("a volume of %d bytes", len(v))
	}
	with := func(at int) string { return v[:at] + "\x01" + v[at+1:] }
	turned := v[512:1536] + v[:512] + v[1536:]
	for what, c := range map[string]struct {
		text string
		want answer
	}{
		"the volume":              {v, answer{two(), 0, api.OK}},
		"without its last byte":   {v[:2559], answer{nil, 2048, api.ErrCut}},
		"no bytes":                {"", answer{nil, 0, api.ErrCut}},
		"01 at 1027":              {with(1027), answer{nil, 1027, api.ErrTail}},
		"01 at 2047":              {with(2047), answer{nil, 1536, api.ErrHead}},
		"01 behind it":            {v + "\x01", answer{nil, 2560, api.ErrTail}},
		"00 behind it":            {v + "\x00", answer{nil, 2560, api.ErrTail}},
		"01 at 2048":              {with(2048), answer{nil, 2048, api.ErrTail}},
		"01 at 0":                 {with(0), answer{nil, 0, api.ErrHeadSum}},
		"a/f, then a":             {turned, answer{two(), 0, api.OK}},
		"a/f alone":               {v[512:1536] + end(), answer{nil, 0, api.ErrParent}},
		"records of none, no end": {more() + end(), answer{nil, 512, api.ErrTwo}},
	} {
		if got := answered(unpack.Read([]byte(c.text))); !got.same(c.want) {
			t.Errorf("Read of %s = %v, not %v", what, got, c.want)
		}
		holdRead(t, []byte(c.text))
	}
	if got := answered(unpack.Exact([]byte(turned))); !got.same(answer{nil, 1, api.ErrForm}) {
		t.Errorf("Exact of a/f, then a = %v", got)
	}
	if got := answered(unpack.Exact([]byte(v))); !got.same(answer{two(), 0, api.OK}) {
		t.Errorf("Exact of the volume = %v", got)
	}
}

func TestExampleOfReader(t *testing.T) {
	v := volumeOf(t, two())
	r := unpack.New()
	if r.Len() != 0 {
		t.Errorf("Len of a new reader = %d", r.Len())
	}
	for _, half := range [][]byte{v[:1280], v[1280:]} {
		if err := r.Feed(half); err != api.OK {
			t.Errorf("Feed = %v", err)
		}
	}
	if got := answered(r.Close()); !got.same(answer{two(), 0, api.OK}) {
		t.Errorf("Close = %v", got)
	}
	if got := answered(r.Close()); !got.same(answer{nil, 0, api.ErrState}) {
		t.Errorf("Close of a closed reader = %v", got)
	}
}

// The fourth example of the whole: a soft link that leads out of the root is not read.
func TestExampleOfWhole(t *testing.T) {
	x := []api.Item{folder("a"), file("a/f"), hard("a/h", "a/f"), soft("l", "a")}
	got := answered(unpack.Read(volumeOf(t, x)))
	if !got.same(answer{x, 0, api.OK}) {
		t.Fatalf("Read = %v", got)
	}
	if path, err := tree.Real(got.t, "l/h"); path != "a/f" || err != api.OK {
		t.Errorf("Real = %q, %v", path, err)
	}
	away := bare(api.Head{Name: "l", Type: '2', Link: "../x"}) + end()
	if got := answered(unpack.Read([]byte(away))); !got.same(answer{nil, 0, api.ErrAway}) {
		t.Errorf("Read of a link that leads away = %v", got)
	}
}

// What stands in a volume byte by byte, written out: no other layer has a hand in it.
func TestBytesWrittenOut(t *testing.T) {
	rest := "ustar\x0000" + noughts(64) + "0000000\x000000000\x00" + noughts(167)
	text := "a" + noughts(99) + "0000644\x000000000\x000000000\x0000000000003\x0000000000000\x00007341\x00 0" + noughts(100) + rest +
		"\x01\x02\x03" + noughts(509) + noughts(1024)
	want := []api.Item{{Path: "a", Kind: isFile, Mode: 420, Body: []byte{1, 2, 3}}}
	if got := answered(unpack.Exact([]byte(text))); !got.same(answer{want, 0, api.OK}) {
		t.Errorf("Exact = %v", got)
	}
}

// wrong is a text, and what Read must answer.
type wrong struct {
	what string
	text string
	at   int
	err  api.Errno
}

// holdWrong holds Read, Exact and a reader against what is told.
func holdWrong(t *testing.T, list []wrong) {
	t.Helper()
	for _, c := range list {
		want := answer{nil, c.at, c.err}
		if got := answered(unpack.Read([]byte(c.text))); !got.same(want) {
			t.Errorf("Read of %s = %v, not %v", c.what, got, want)
			continue
		}
		if got := answered(unpack.Exact([]byte(c.text))); !got.same(want) {
			t.Errorf("Exact of %s = %v, not %v", c.what, got, want)
		}
		holdRead(t, []byte(c.text))
		holdFed(t, []byte(c.text), len(c.text)/2)
	}
}

// Rules 1 and 2: where bytes end, and what stands behind the end.
func TestEnds(t *testing.T) {
	f, x := entry("f", '0', "1"), more("path", "p")
	holdWrong(t, []wrong{
		{"one byte", "\x00", 0, api.ErrCut},
		{"511 noughts", noughts(511), 0, api.ErrCut},
		{"511 bytes of a head", f[:511], 0, api.ErrCut},
		{"a blank piece", noughts(512), 512, api.ErrCut},
		{"a blank piece and 511 bytes", noughts(1023), 512, api.ErrCut},
		{"a blank piece and 511 bytes that are none", noughts(512) + of("\x01", 511), 512, api.ErrCut},
		{"a blank piece and a head", noughts(512) + f, 512, api.ErrTail},
		{"a blank piece and another byte at its end", noughts(1023) + "\x01", 512, api.ErrTail},
		{"that, and more", noughts(1023) + "\x01" + end(), 512, api.ErrTail},
		{"three blank pieces", noughts(1536), 1024, api.ErrTail},
		{"a volume of none, and another one", end() + end(), 1024, api.ErrTail},
		{"a volume of none, and a file", end() + f + end(), 1024, api.ErrTail},
		{"a volume of none, and a byte", end() + "\x01", 1024, api.ErrTail},
		{"a file, and no end", f, 1024, api.ErrCut},
		{"a file, and a half of the end", f + noughts(512), 1536, api.ErrCut},
		{"a file, and a short end", f + noughts(1023), 1536, api.ErrCut},
		{"a file, and a long end", f + noughts(1025), 2048, api.ErrTail},
		{"records, and no end", x, 1024, api.ErrCut},
		{"records, and a byte", x + "\x01", 1024, api.ErrCut},
		{"records, and 511 noughts", x + noughts(511), 1024, api.ErrCut},
		{"records, and a blank piece", x + noughts(512), 1024, api.ErrTwo},
		{"records, and the end", x + end(), 1024, api.ErrTwo},
		{"records, and a long end", x + end() + "\x01", 1024, api.ErrTwo},
		{"records, and a blank piece with a head behind", x + noughts(512) + f, 1024, api.ErrTwo},
	})
}

// Rule 3: what layer 10 refuses.
func TestHeads(t *testing.T) {
	f := entry("f", '0', "1")
	seal := func(at int, c byte) string {
		b := []byte(f)
		b[at] = c
		sealed, _ := head.Seal(b[:512])
		return string(sealed) + f[512:]
	}
	holdWrong(t, []wrong{
		{"no head", of("\x01", 512) + end(), 0, api.ErrHead},
		{"a piece with one byte", noughts(511) + "\x01" + end(), 0, api.ErrHead},
		{"a type that is none", seal(156, '3') + end(), 0, api.ErrHead},
		{"the type of a volume's name", seal(156, 'g') + end(), 0, api.ErrHead},
		{"the old type of a file", seal(156, 0) + end(), 0, api.ErrHead},
		{"another byte of the Name", "g" + f[1:] + end(), 0, api.ErrHeadSum},
		{"a file, and no head", f + of("\x01", 512) + end(), 1024, api.ErrHead},
		{"a file, and its Body once more", f + f[512:] + end(), 1024, api.ErrHead},
		{"a file, and one that is turned", f + "g" + f[1:] + end(), 1024, api.ErrHeadSum},
		{"records, and no head", more("path", "p") + of("\x01", 512), 1024, api.ErrHead},
		{"records, and a head that is turned", more() + "g" + f[1:] + end(), 512, api.ErrHeadSum},
		{"a wide form of a small number", seal(124, 0x80) + end(), 0, api.ErrHead},
	})
}

// Rule 4: what is wrong with records, one thing ahead of another.
func TestRecords(t *testing.T) {
	f, x := entry("f", '0', "1"), more("path", "p")
	good := "9 path=p\n"
	many := ""
	for at := range 65 {
		many += "5 " + string(rune('>'+at)) + "=\n"
	}
	sized := func(size int, text string) string { return bare(api.Head{Type: 'x', Size: size}) + text }
	holdWrong(t, []wrong{
		{"records behind records", more() + x + f + end(), 512, api.ErrTwo},
		{"those of none behind others", x + more() + f + end(), 1024, api.ErrTwo},
		{"broken records behind records", x + moreOf("?") + f + end(), 1024, api.ErrTwo},
		{"cut records behind records", x + sized(9999, ""), 1024, api.ErrTwo},
		{"a Size with nothing behind", sized(1, ""), 512, api.ErrCut},
		{"a Size of which a byte is missing", sized(9, fill(good)[:511]), 512, api.ErrCut},
		{"a Size that ends at the bytes' end, not filled", sized(9, good), 512, api.ErrCut},
		{"a Size of two pieces, with one and the end", sized(1537, fill(good)+end()), 512, api.ErrCut},
		{"the greatest Size", sized(1<<33-1, f+end()), 512, api.ErrCut},
		{"a cut, ahead of a tail and of broken records", sized(3, "?!?!"), 512, api.ErrCut},
		{"a byte behind the Size", sized(9, good+"\x01"+noughts(502)) + f + end(), 521, api.ErrTail},
		{"two bytes behind the Size", sized(9, good+noughts(10)+"\x02"+noughts(491)+"\x03") + f + end(), 531, api.ErrTail},
		{"a byte at the end of what is filled", sized(9, good+noughts(502)+"\xff") + f + end(), 1023, api.ErrTail},
		{"a tail, ahead of broken records", sized(3, "????"+noughts(508)) + f + end(), 515, api.ErrTail},
		{"records of no records", moreOf("?") + f + end(), 512, api.ErrRecord},
		{"a nought as a record", moreOf(good+"\x00") + f + end(), 521, api.ErrRecord},
		{"a second record that is broken", moreOf("14 linkpath=p\n"+"10 path=p\n") + f + end(), 526, api.ErrRecord},
		{"keys that do not rise", moreOf(good+"14 linkpath=p\n") + f + end(), 521, api.ErrOrder},
		{"one key twice", moreOf(good+good) + f + end(), 521, api.ErrOrder},
		{"a key of no bytes behind another", moreOf(good+"5 =p\n") + f + end(), 521, api.ErrKey},
		{"a value that is too long", moreOf("1036 path="+of("v", 1025)+"\n") + f + end(), 512, api.ErrLong},
		{"more than 64 records", moreOf(many) + f + end(), 512 + 64*5, api.ErrFull},
		{"64 records of other keys", moreOf(many[:64*5]) + f + end(), 512, api.ErrKey},
		{"another key", more("mtime", "5") + f + end(), 512, api.ErrKey},
		{"another key behind one that may be", more("path", "p", "size", "5") + f + end(), 512, api.ErrKey},
		{"another key between those that may be", more("linkpath", "p", "mtime", "1", "path", "p") + f + end(), 512, api.ErrKey},
		{"a key that one begins", more("pat", "p") + f + end(), 512, api.ErrKey},
		{"a key that begins with one", more("path ", "p") + f + end(), 512, api.ErrKey},
		{"a key in great letters", more("PATH", "p") + f + end(), 512, api.ErrKey},
		{"a broken record behind another key", moreOf("11 mtime=5\n?") + f + end(), 523, api.ErrRecord},
		{"all that behind a file", f + moreOf(good+"?") + f + end(), 1024 + 521, api.ErrRecord},
		{"another key behind a file", f + more("size", "0") + f + end(), 1024 + 512, api.ErrKey},
	})
}

// Rule 4: records of up to 64 pairs, and values up to 1024 bytes, reach the tree's own errors.
func TestRecordsLong(t *testing.T) {
	f := entry("f", '0', "1")
	holdWrong(t, []wrong{
		{"a path of 1024 bytes", more("path", of("p", 1024)) + f + end(), 2048, api.ErrLong},
		{"a linkpath of 1024 bytes", more("linkpath", of("p", 1024)) + entry("l", '2', "") + end(), 2048, api.ErrLong},
		{"both", more("linkpath", of("p", 1024), "path", of("q", 1024)) + entry("l", '2', "") + end(), 512 + 2560, api.ErrLong},
	})
}

// Rule 5: what is wrong with an item's bytes, one thing ahead of another.
func TestBodies(t *testing.T) {
	sized := func(kind byte, size int, text string) string {
		return bare(api.Head{Name: "n", Link: of("l", int(kind)%2), Type: kind, Size: size}) + text
	}
	list := []wrong{
		{"a Size with nothing behind", sized('0', 1, ""), 512, api.ErrCut},
		{"a Size of which a byte is missing", sized('0', 512, of("b", 511)), 512, api.ErrCut},
		{"a Size that is there, not filled", sized('0', 5, of("b", 5)), 512, api.ErrCut},
		{"a Size that takes the end", sized('0', 1024, end()), 1536, api.ErrCut},
		{"a Size past the end", sized('0', 1025, end()), 512, api.ErrCut},
		{"the greatest Size", sized('0', 1<<33-1, end()), 512, api.ErrCut},
		{"a byte behind the Size", sized('0', 5, "bodyb\x01"+noughts(506)) + end(), 517, api.ErrTail},
		{"a byte at the end of what is filled", sized('0', 513, of("b", 513)+noughts(510)+"\x80") + end(), 1535, api.ErrTail},
		{"a cut ahead of a tail", sized('0', 5, "bodyb\x01"), 512, api.ErrCut},
		{"that, behind records", more("path", "p") + sized('0', 5, "bodyb\x01"+noughts(506)) + end(), 1024 + 517, api.ErrTail},
	}
	for _, kind := range []byte("125") {
		list = append(list,
			wrong{"a Size, and a Body", sized(kind, 3, fill("abc")) + end(), 0, api.ErrItem},
			wrong{"a Size, and noughts", sized(kind, 512, noughts(512)) + end(), 0, api.ErrItem},
			wrong{"a Size, ahead of a cut", sized(kind, 1, ""), 0, api.ErrItem},
			wrong{"a Size, ahead of a tail", sized(kind, 1, of("\x01", 512)) + end(), 0, api.ErrItem},
			wrong{"the greatest Size", sized(kind, 1<<33-1, "") + end(), 0, api.ErrItem},
			wrong{"a Size, behind records", more() + sized(kind, 3, fill("abc")) + end(), 512, api.ErrItem},
			wrong{"a Size, behind a file", entry("f", '0', "") + sized(kind, 3, fill("abc")) + end(), 512, api.ErrItem},
		)
	}
	holdWrong(t, list)
}

// What is no tree, with the place where the item was met that is wrong.
func TestTreeErrors(t *testing.T) {
	a, f, g := entry("a", '5', ""), entry("a/f", '0', "1"), entry("g", '0', "2")
	put := func(h api.Head) string { return bare(h) }
	holdWrong(t, []wrong{
		{"no Name", put(api.Head{Type: '0'}) + end(), 0, api.ErrEmpty},
		{"a Name with a stroke ahead", entry("/a", '0', "") + end(), 0, api.ErrEmpty},
		{"a folder's Name with a stroke behind", entry("a/", '5', "") + end(), 0, api.ErrEmpty},
		{"a Prefix and no Name", put(api.Head{Prefix: "a", Type: '0'}) + end(), 0, api.ErrEmpty},
		{"dots ahead", entry("../a", '0', "") + end(), 0, api.ErrDots},
		{"one dot", entry("./a", '0', "") + end(), 0, api.ErrDots},
		{"a Prefix of dots", a + put(api.Head{Prefix: "..", Name: "a", Type: '0'}) + end(), 512, api.ErrDots},
		{"dots in records", g + more("path", "a/../../b") + g + end(), 2048, api.ErrDots},
		{"a byte 00 in records", more("path", "a\x00") + g + end(), 1024, api.ErrNul},
		{"an empty path in records", more("path", "") + g + end(), 1024, api.ErrEmpty},
		{"a long part in records", more("path", of("p", 121)) + g + end(), 1024, api.ErrLong},
		{"a long path in records", more("path", of("p/", 200)+"p") + g + end(), 1024, api.ErrLong},
		{"a file with a Link", put(api.Head{Name: "a", Link: "b", Type: '0'}) + end(), 0, api.ErrItem},
		{"a folder with a Link", put(api.Head{Name: "a", Link: "b", Type: '5'}) + end(), 0, api.ErrItem},
		{"a file with a linkpath", more("linkpath", "b") + g + end(), 1024, api.ErrItem},
		{"a hard link with a Mode", g + put(api.Head{Name: "h", Link: "g", Type: '1', Mode: 1}) + end(), 1024, api.ErrArg},
		{"a hard link with a Time", g + put(api.Head{Name: "h", Link: "g", Type: '1', Time: 1}) + end(), 1024, api.ErrArg},
		{"a soft link with a Mode", put(api.Head{Name: "h", Link: "g", Type: '2', Mode: 511}) + end(), 0, api.ErrArg},
		{"a soft link to nothing", put(api.Head{Name: "h", Type: '2'}) + end(), 0, api.ErrEmpty},
		{"a soft link to nothing by records", more("linkpath", "") + put(api.Head{Name: "h", Type: '2', Link: "g"}) + end(), 1024, api.ErrEmpty},
		{"a soft link to the root of all", put(api.Head{Name: "h", Link: "/etc", Type: '2'}) + end(), 0, api.ErrAway},
		{"a soft link away", a + put(api.Head{Name: "a/h", Link: "../../x", Type: '2'}) + end(), 512, api.ErrAway},
		{"a soft link away by records", a + more("linkpath", "x/../../..") + put(api.Head{Name: "a/h", Link: "f", Type: '2'}) + end(), 1536, api.ErrAway},
		{"a hard link to nothing", put(api.Head{Name: "h", Type: '1'}) + end(), 0, api.ErrEmpty},
		{"a hard link away", put(api.Head{Name: "h", Link: "../g", Type: '1'}) + end(), 0, api.ErrDots},
		{"a hard link to a file that is not there", g + put(api.Head{Name: "h", Link: "f", Type: '1'}) + end(), 1024, api.ErrHard},
		{"a hard link to a file behind it", put(api.Head{Name: "b", Link: "g", Type: '1'}) + g + end(), 0, api.ErrHard},
		{"a hard link to a folder", a + put(api.Head{Name: "h", Link: "a", Type: '1'}) + end(), 512, api.ErrHard},
		{"a hard link to itself", put(api.Head{Name: "h", Link: "h", Type: '1'}) + end(), 0, api.ErrHard},
		{"a file in no folder", g + f + end(), 1024, api.ErrParent},
		{"a file in a file", g + entry("g/x", '0', "") + end(), 1024, api.ErrParent},
		{"a file in a file, met ahead of it", entry("g/x", '0', "") + g + end(), 0, api.ErrParent},
		{"a file in a soft link", put(api.Head{Name: "h", Link: "a", Type: '2'}) + a + entry("h/x", '0', "") + end(), 1024, api.ErrParent},
		{"a folder twice", a + a + end(), 512, api.ErrSorted},
		{"a folder and a file of one path", a + entry("a", '0', "") + end(), 512, api.ErrSorted},
		{"a path once by records", g + more("path", "g") + f + end(), 2048, api.ErrSorted},
		{"records tell a path, a Name alike", more("path", "g") + f + g + end(), 1024 + 1024, api.ErrSorted},
		{"a file of 65537 bytes", entry("f", '0', of("b", 65537)) + end(), 0, api.ErrLong},
		{"that, behind others", a + f + entry("g", '0', of("b", 65537)) + end(), 1536, api.ErrLong},
	})
}

// Of items of one path the second one is wrong, wherever others stand.
func TestTwice(t *testing.T) {
	x := []string{entry("d", '5', ""), entry("b", '0', "1"), entry("c", '0', ""), entry("b", '5', ""), entry("a", '0', of("1", 600)), entry("b", '0', "")}
	dice := newDice()
	for range 200 {
		dice.Shuffle(len(x), func(i, j int) { x[i], x[j] = x[j], x[i] })
		at, met, want := 0, 0, 0
		for _, text := range x {
			if text[0] == 'b' {
				if met++; met == 2 {
					want = at
				}
			}
			at += len(text)
		}
		holdWrong(t, []wrong{{"an item thrice", strings.Join(x, "") + end(), want, api.ErrSorted}})
	}
}

// Of several wrong items the first one in the tree's order is told, not the one that was met first.
func TestFirstInOrder(t *testing.T) {
	holdWrong(t, []wrong{
		{"b/x ahead of a/x", entry("b/x", '0', "") + entry("a/x", '0', "1") + end(), 512, api.ErrParent},
		{"a dot ahead of a file in no folder", entry("b/x", '0', "") + entry(".", '0', "") + end(), 512, api.ErrDots},
		{"a file twice, and one in no folder", entry("c/x", '0', "1") + entry("b", '0', "") + entry("b", '0', "") + end(), 1536, api.ErrSorted},
		{"a file in no folder, and one twice", entry("b", '0', "") + entry("b", '0', "") + entry("a/x", '0', "1") + end(), 1024, api.ErrParent},
		{"what reading refuses, ahead of what is no tree", entry("b/x", '0', "") + bare(api.Head{Name: "d", Type: '5', Size: 1}), 512, api.ErrItem},
		{"a cut, ahead of what is no tree", entry("b/x", '0', "") + noughts(512), 1024, api.ErrCut},
		{"a long end, ahead of what is no tree", entry("b/x", '0', "") + end() + "x", 1536, api.ErrTail},
	})
}

// right is a text, and the tree that Read must answer.
type right struct {
	what string
	text string
	want []api.Item
	form int // where Exact answers ErrForm
}

// What others may have written, and is a tree all the same.
func TestOtherForms(t *testing.T) {
	f := entry("f", '0', "1")
	plain := func(path string, body ...byte) api.Item { return api.Item{Path: path, Kind: isFile, Body: body} }
	for _, c := range []right{
		{"records of no pairs", more() + f + end(), []api.Item{plain("f", '1')}, 0},
		{"a path that a head has room for", more("path", "p") + f + end(), []api.Item{plain("p", '1')}, 0},
		{"a path that is the head's", more("path", "f") + f + end(), []api.Item{plain("f", '1')}, 0},
		{"records of one item alone", more("path", "p") + f + f + end(), []api.Item{plain("f", '1'), plain("p", '1')}, 0},
		{"records of the second one", f + more("path", "p") + f + end(), []api.Item{plain("f", '1'), plain("p", '1')}, 1024},
		{"records twice, each of its item", more("path", "q") + f + more("path", "p") + f + end(), []api.Item{plain("p", '1'), plain("q", '1')}, 0},
		{"a linkpath of a link", more("linkpath", "t") + bare(api.Head{Name: "l", Link: "u", Type: '2'}) + end(), []api.Item{{Path: "l", Kind: isSoft, To: "t"}}, 0},
		{"a linkpath, and none at the next one", more("linkpath", "t") + bare(api.Head{Name: "k", Link: "u", Type: '2'}) + bare(api.Head{Name: "l", Link: "v", Type: '2'}) + end(),
			[]api.Item{{Path: "k", Kind: isSoft, To: "t"}, {Path: "l", Kind: isSoft, To: "v"}}, 0},
		{"an empty linkpath of a file with a Link", more("linkpath", "") + bare(api.Head{Name: "f", Link: "u", Type: '0'}) + end(), []api.Item{plain("f")}, 0},
		{"both", more("linkpath", "t", "path", "p") + bare(api.Head{Name: "l", Link: "u", Type: '2'}) + end(), []api.Item{{Path: "p", Kind: isSoft, To: "t"}}, 0},
		{"a path for a head without a Name", more("path", "p") + bare(api.Head{Type: '0'}) + end(), []api.Item{plain("p")}, 0},
		{"a path, and a Prefix that goes by the board", more("path", "p") + bare(api.Head{Prefix: "..", Name: "\xff", Type: '0'}) + end(), []api.Item{plain("p")}, 0},
		{"a Prefix where none is needed", entry("a", '5', "") + bare(api.Head{Prefix: "a", Name: "f", Type: '0'}) + end(), []api.Item{{Path: "a", Kind: isFolder}, plain("a/f")}, 512},
		{"another Name of the records' head", bare(api.Head{Name: "more!", Type: 'x', Size: 111}) + fill("111 path="+of("l", 101)+"\n") + bare(api.Head{Type: '0'}) + end(), []api.Item{plain(of("l", 101))}, 4},
		{"a Mode, a Time and a Link of the records' head", bare(api.Head{Name: "more", Type: 'x', Size: 111, Mode: 420, Time: 5, Link: "l", Prefix: "p"}) + fill("111 path="+of("l", 101)+"\n") + bare(api.Head{Type: '0'}) + end(), []api.Item{plain(of("l", 101))}, 104},
		{"a Name beside a path", bare(api.Head{Name: "more", Type: 'x', Size: 111}) + fill("111 path="+of("l", 101)+"\n") + bare(api.Head{Name: "n", Type: '0'}) + end(), []api.Item{plain(of("l", 101))}, 1024},
		{"a hard link ahead of its file", bare(api.Head{Name: "z", Link: "f", Type: '1'}) + f + end(), []api.Item{plain("f", '1'), hard("z", "f")}, 0},
	} {
		if got := answered(unpack.Read([]byte(c.text))); !got.same(answer{c.want, 0, api.OK}) {
			t.Errorf("Read of %s = %v, not %s", c.what, got, paths(c.want))
		}
		if got := answered(unpack.Exact([]byte(c.text))); !got.same(answer{nil, c.form, api.ErrForm}) {
			t.Errorf("Exact of %s = %v, not %d", c.what, got, c.form)
		}
		holdRead(t, []byte(c.text))
	}
}

// Each field of a head comes to its item, at the bounds.
func TestFields(t *testing.T) {
	for _, it := range []api.Item{
		{Path: "f", Kind: isFile, Mode: 4095, Time: maxTime, Body: []byte{0}},
		{Path: "f", Kind: isFile},
		{Path: "d", Kind: isFolder, Mode: 1023, Time: 1 << 33},
		{Path: "s", Kind: isSoft, Time: 1<<33 - 1, To: "d/.."},
		soft("s", of("x", 100)), soft("s", of("x", 101)), soft("s", of("x", 400)), soft(of("p", 120), of("x", 400)),
		file(of("n", 100)), file(of("n", 101)), file(of("n", 120)), file("\xff\n=\x01"),
		filled("f", 65535), filled("f", 65536), file("f", make([]byte, 512)...), file("f", make([]byte, 1024)...),
	} {
		x := []api.Item{it}
		if got := answered(unpack.Exact(volumeOf(t, x))); !got.same(answer{x, 0, api.OK}) {
			t.Errorf("Exact of the volume of %+v = %+v", paths(x), got.t)
		}
	}
}

// P13.1: as many bytes as may be, and one more, whatever they are.
func TestLong(t *testing.T) {
	for _, x := range [][]api.Item{{filled("a", 65536), filled("b", 63488)}, row(254)} {
		v := volumeOf(t, x)
		if len(v) != maxVolume {
			t.Fatalf("a volume of %d bytes", len(v))
		}
		if got := holdRead(t, v); !got.same(answer{x, 0, api.OK}) {
			t.Errorf("Read of a full volume = %v", got)
		}
		holdFed(t, v, 1, 70000)
		for _, b := range [][]byte{append(slices.Clone(v), 0), append(slices.Clone(v), v...), append([]byte{1}, v...)} {
			if got := holdRead(t, b); !got.same(answer{nil, 0, api.ErrLong}) {
				t.Errorf("Read of %d bytes = %v", len(b), got)
			}
			if got := answered(unpack.Exact(b)); !got.same(answer{nil, 0, api.ErrLong}) {
				t.Errorf("Exact of %d bytes = %v", len(b), got)
			}
		}
	}
	full := entry("f", '0', of("b", maxVolume-1536)) + end()
	holdWrong(t, []wrong{
		{"a Body that fills all", full, 0, api.ErrLong},
		{"heads without an end", of(entry("a", '5', ""), 256), maxVolume, api.ErrCut},
		{"records of as many bytes as may be", sizedMore(maxVolume-512) + of("?", maxVolume-512), 512, api.ErrRecord},
	})
	for _, size := range []int{maxVolume + 1, 1 << 20, 1 << 24} {
		if got := answered(unpack.Read(make([]byte, size))); !got.same(answer{nil, 0, api.ErrLong}) {
			t.Errorf("Read of %d bytes = %v", size, got)
		}
	}
}

func sizedMore(size int) string { return bare(api.Head{Type: 'x', Size: size}) }

// P13.3: the piece with which there would be too many bytes is not taken, and leaves room to others.
func TestFeedTooMuch(t *testing.T) {
	x := []api.Item{filled("a", 65536), filled("b", 63488)}
	v := volumeOf(t, x)
	r := unpack.New()
	if err := r.Feed(make([]byte, maxVolume+1)); err != api.ErrLong || r.Len() != 0 {
		t.Errorf("Feed = %v, Len %d", err, r.Len())
	}
	for from := 0; from < len(v); from += 4096 {
		if err := r.Feed(make([]byte, maxVolume+1-from)); err != api.ErrLong || r.Len() != from {
			t.Fatalf("Feed at %d = %v, Len %d", from, err, r.Len())
		}
		if err := r.Feed(v[from : from+4096]); err != api.OK || r.Len() != from+4096 {
			t.Fatalf("Feed at %d = %v, Len %d", from, err, r.Len())
		}
	}
	if err := r.Feed([]byte{0}); err != api.ErrLong || r.Len() != maxVolume {
		t.Errorf("Feed behind all = %v, Len %d", err, r.Len())
	}
	if err := r.Feed(nil); err != api.OK || r.Len() != maxVolume {
		t.Errorf("Feed of nothing behind all = %v, Len %d", err, r.Len())
	}
	if got := answered(r.Close()); !got.same(answer{x, 0, api.OK}) {
		t.Errorf("Close = %v", got)
	}
	holdClosed(t, r, maxVolume)
}

func TestNil(t *testing.T) {
	var r *unpack.Reader
	for range 2 {
		for _, piece := range [][]byte{nil, {1}, make([]byte, maxVolume+1)} {
			if err := r.Feed(piece); err != api.ErrNil {
				t.Errorf("Feed to nil = %v", err)
			}
		}
		if r.Len() != 0 {
			t.Errorf("Len of nil = %d", r.Len())
		}
		if got := answered(r.Close()); !got.same(answer{nil, 0, api.ErrNil}) {
			t.Errorf("Close of nil = %v", got)
		}
	}
}

// P13.3: a reader of no bytes, and one whose bytes are refused, are closed like others.
func TestRefusedIsClosed(t *testing.T) {
	holdFed(t, nil)
	for _, text := range []string{"", "?", noughts(512), more() + end(), entry("a/b", '0', "") + end(), end() + "?"} {
		holdFed(t, []byte(text))
		r := unpack.New()
		r.Feed([]byte(text))
		if got := answered(r.Close()); got.err == api.OK {
			t.Errorf("Close of %d bytes = %v", len(text), got)
		}
		holdClosed(t, r, len(text))
	}
}

// R2: readers do not see one another, nor what other calls did.
func TestReadersApart(t *testing.T) {
	x, y := small(), long()
	v, w := volumeOf(t, x), volumeOf(t, y)
	r, s := unpack.New(), unpack.New()
	for at := 0; at < max(len(v), len(w)); at += 100 {
		r.Feed(v[min(at, len(v)):min(at+100, len(v))])
		unpack.Read(w[:at%len(w)])
		unpack.Exact(v)
		s.Feed(w[min(at, len(w)):min(at+100, len(w))])
	}
	if got := answered(s.Close()); !got.same(answer{y, 0, api.OK}) {
		t.Errorf("Close = %v", got)
	}
	if got := answered(r.Close()); !got.same(answer{x, 0, api.OK}) {
		t.Errorf("Close = %v", got)
	}
}

// What the other tests lean on: trees by dice have all that items may have.
func TestTreesOfTests(t *testing.T) {
	dice := newDice()
	count := map[string]int{}
	for range 300 {
		x, _ := grown(dice, dice.IntN(30))
		for _, it := range x {
			l, err := pack.Pairs(it)
			if err != api.OK {
				t.Fatalf("Pairs = %v", err)
			}
			count[fmt.Sprint("kind ", it.Kind)]++
			count[fmt.Sprint(len(l), " pairs")]++
		}
	}
	for _, what := range []string{"kind 1", "kind 2", "kind 3", "kind 4", "0 pairs", "1 pairs", "2 pairs"} {
		if count[what] < 20 {
			t.Errorf("%s: %d times alone", what, count[what])
		}
	}
}

// P13.4: there and back, on trees by hand and by dice.
func TestThereAndBack(t *testing.T) {
	dice := newDice()
	lists := [][]api.Item{nil, two(), small(), long(), row(254)}
	for range 300 {
		x, _ := grown(dice, dice.IntN(30))
		lists = append(lists, x)
	}
	for _, x := range lists {
		v := volumeOf(t, x)
		want := answer{x, 0, api.OK}
		if got := holdRead(t, v); !got.same(want) {
			t.Fatalf("Read of the volume of %s = %v", paths(x), got)
		}
		if got := answered(unpack.Exact(v)); !got.same(want) {
			t.Fatalf("Exact of the volume of %s = %v", paths(x), got)
		}
		holdFed(t, v, someEnds(dice, len(v))...)
	}
}

// spoiled has one thing changed somewhere: mostly it is no volume any more.
func spoiled(dice *rand.Rand, v []byte) []byte {
	b := slices.Clone(v)
	if len(b) == 0 {
		return b
	}
	at := dice.IntN(len(b))
	piece := at / 512 * 512
	switch dice.IntN(8) {
	case 0:
		b[at] ^= byte(1 + dice.IntN(255))
	case 1:
		return b[:at]
	case 2:
		return append(b, make([]byte, dice.IntN(3)*512+dice.IntN(2))...)
	case 3:
		return slices.Delete(b, piece, min(piece+512, len(b)))
	case 4:
		other := dice.IntN(len(b)) / 512 * 512
		return slices.Insert(b, other, slices.Clone(b[piece:min(piece+512, len(b))])...)
	case 5, 6:
		b[piece+pick(dice, []int{0, 1, 106, 134, 135, 145, 156, 156, 156, 157, 345})%(min(512, len(b)-piece))] = pick(dice, []byte("\x00/.a0125x"))
		if len(b) >= piece+512 && !head.Blank(b[piece:piece+512]) {
			sealed, _ := head.Seal(b[piece : piece+512])
			copy(b[piece:], sealed)
		}
	case 7:
		ahead := pick(dice, []string{more(), more("path", "p"), more("linkpath", "q"), more("path", "a", "zz", ""), more("linkpath", "a", "path", "b"), entry("a", '5', ""), entry("b", '0', "1"), noughts(512)})
		return slices.Insert(b, piece, []byte(ahead)...)
	}
	return b
}

// All calls on spoiled volumes; P13.4 and P13.5 of what is still read.
func TestSpoiled(t *testing.T) {
	dice := newDice()
	count := map[api.Errno]int{}
	for range 4000 {
		_, v := grown(dice, dice.IntN(8))
		for range 1 + dice.IntN(3) {
			v = spoiled(dice, v)
		}
		got := holdRead(t, v)
		count[got.err]++
		if got.err == api.OK {
			holdInside(t, got.t)
			holdAgain(t, v, got.t)
		}
		if dice.IntN(10) == 0 {
			holdFed(t, v, someEnds(dice, len(v))...)
		}
	}
	for _, err := range []api.Errno{api.OK, api.ErrCut, api.ErrTail, api.ErrTwo, api.ErrHead, api.ErrHeadSum, api.ErrSorted, api.ErrParent, api.ErrItem, api.ErrKey, api.ErrEmpty} {
		if count[err] < 10 {
			t.Errorf("%v: %d times alone", err, count[err])
		}
	}
}

// holdAgain is P13.4 of bytes that were read: the tree's volume is read as the tree, and is the bytes where Exact answers it.
func holdAgain(tb testing.TB, b []byte, t []api.Item) {
	tb.Helper()
	v, _, err := pack.Write(t)
	if err != api.OK {
		return
	}
	if got := answered(unpack.Read(v)); !got.same(answer{t, 0, api.OK}) {
		tb.Fatalf("Read of the volume of %s = %v", paths(t), got)
	}
	if _, _, err := unpack.Exact(b); (err == api.OK) != bytes.Equal(b, v) {
		tb.Fatalf("Exact of %d bytes = %v", len(b), err)
	}
}

// holdInside is P13.5.
func holdInside(tb testing.TB, t []api.Item) {
	tb.Helper()
	if at, err := tree.Check(t); err != api.OK {
		tb.Fatalf("no tree: %v at %d", err, at)
	}
	for _, it := range t {
		if at, err := name.Check(it.Path); err != api.OK {
			tb.Fatalf("the Path %q: %v at %d", it.Path, err, at)
		}
		if it.Kind == isSoft {
			if to, err := name.Lead(it.Path, it.To); err != api.OK || strings.HasPrefix(to, "/") || slices.Contains(strings.Split(to, "/"), "..") {
				tb.Fatalf("%q leads to %q: %q, %v", it.Path, it.To, to, err)
			}
		}
		if it.Kind == isHard {
			if at, err := tree.Find(t, it.To); err != api.OK || t[at].Kind != isFile {
				tb.Fatalf("%q names %q: %v", it.Path, it.To, err)
			}
		}
	}
}

// P13.5: Paths and Tos that lead out of the root, in each way that a head and records have.
func TestOutside(t *testing.T) {
	out := []string{"..", "../a", "a/../../b", "/", "/a", "//a", "", ".", "./..", "a/..", "a/", "a//b", "a\x00b", "..\x00", of("../", 30) + "etc"}
	in := []string{"...", "..a", "a..", "a/...", "\x01", " "}
	for _, path := range append(out, in...) {
		texts := []string{more("path", path) + bare(api.Head{Name: "ok", Type: '0'}), more("linkpath", path) + bare(api.Head{Name: "ok", Link: "a", Type: '1'}), more("linkpath", path) + bare(api.Head{Name: "ok", Link: "a", Type: '2'})}
		if !strings.Contains(path, "\x00") {
			for _, kind := range []byte("05") {
				texts = append(texts, bare(api.Head{Name: path, Type: kind}), bare(api.Head{Name: "x", Prefix: path, Type: kind}), bare(api.Head{Name: path, Prefix: "a", Type: kind}))
			}
			texts = append(texts, bare(api.Head{Name: "ok", Link: path, Type: '1'}), bare(api.Head{Name: "ok", Link: path, Type: '2'}))
		}
		for _, text := range texts {
			for _, ahead := range []string{"", entry("a", '5', ""), entry("a", '0', "")} {
				if got := holdRead(t, []byte(ahead+text+end())); got.err == api.OK {
					holdInside(t, got.t)
				}
			}
		}
	}
	for _, path := range out {
		if got := answered(unpack.Read([]byte(more("path", path) + bare(api.Head{Name: "ok", Type: '0'}) + end()))); got.err == api.OK || got.at != 1024 || len(got.t) != 0 {
			t.Errorf("Read of the path %q = %v", path, got)
		}
	}
}

// P13.6: no beginning of a volume is read.
func TestBeginnings(t *testing.T) {
	dice := newDice()
	lists := [][]api.Item{nil, two(), small(), {file("f", make([]byte, 2048)...)}, {soft(of("p", 101), of("x", 101))}, {filled("f", 512)}}
	for _, x := range lists {
		v := volumeOf(t, x)
		for size := range v {
			if got := answered(unpack.Read(v[:size])); len(got.t) != 0 || got.err != api.ErrCut || got.at > size || got.at%512 != 0 {
				t.Fatalf("Read of %d bytes of the volume of %s = %v", size, paths(x), got)
			}
			if got := answered(unpack.Exact(v[:size])); got.err != api.ErrCut {
				t.Fatalf("Exact of %d bytes of the volume of %s = %v", size, paths(x), got)
			}
		}
	}
	for range 100 {
		x, v := grown(dice, dice.IntN(20))
		for range 30 {
			size := dice.IntN(len(v))
			if got := holdRead(t, v[:size]); got.err != api.ErrCut {
				t.Fatalf("Read of %d bytes of the volume of %s = %v", size, paths(x), got)
			}
		}
	}
}

// P13.6: each byte of volumes that become each other byte.
func TestTurned(t *testing.T) {
	for _, x := range [][]api.Item{nil, {file("f", 1, 0, 0)}, {soft(of("p", 101), of("x", 101))}} {
		v := volumeOf(t, x)
		for at, was := range v {
			for c := range 256 {
				if byte(c) == was {
					continue
				}
				v[at] = byte(c)
				if u, _, err := unpack.Read(v); err == api.OK && tree.Same(u, x) {
					t.Fatalf("%02x at %d of the volume of %s is read as the same", c, at, paths(x))
				}
			}
			v[at] = was
		}
	}
}

// P13.6: each byte of greater volumes that become another one.
func TestTurnedByDice(t *testing.T) {
	dice := newDice()
	turn := func(x []api.Item, v []byte, at int) {
		was := v[at]
		v[at] ^= byte(1 + dice.IntN(255))
		if got := holdRead(t, v); got.err == api.OK && tree.Same(got.t, x) {
			t.Fatalf("%02x at %d of the volume of %s is read as the same", v[at], at, paths(x))
		}
		v[at] = was
	}
	for _, x := range [][]api.Item{two(), small()} {
		v := volumeOf(t, x)
		for at := range v {
			turn(x, v, at)
		}
	}
	for range 100 {
		x, v := grown(dice, dice.IntN(12))
		for range 30 {
			turn(x, v, dice.IntN(len(v)))
		}
	}
}

// orders goes over all orders of a list.
func orders(l []string, yield func([]string)) {
	if len(l) == 0 {
		yield(nil)
		return
	}
	for at := range l {
		rest := slices.Delete(slices.Clone(l), at, at+1)
		orders(rest, func(behind []string) { yield(append([]string{l[at]}, behind...)) })
	}
}

// P13.7: the pieces of a tree's items in all orders.
func TestOrders(t *testing.T) {
	deep := []api.Item{folder("a"), folder("a/" + of("b", 100)), filled("a/"+of("b", 100)+"/"+of("c", 101), 600), soft("a/l", of("x", 101)), hard("b", "a/"+of("b", 100)+"/"+of("c", 101))}
	for _, x := range [][]api.Item{nil, two(), small(), deep} {
		l := piecesOf(t, x)
		v := string(volumeOf(t, x))
		orders(l, func(turned []string) {
			text := strings.Join(turned, "") + end()
			if got := holdRead(t, []byte(text)); !got.same(answer{x, 0, api.OK}) {
				t.Fatalf("Read of the pieces of %s in another order = %v", paths(x), got)
			}
			if _, _, err := unpack.Exact([]byte(text)); (err == api.OK) != (text == v) || err != api.OK && err != api.ErrForm {
				t.Fatalf("Exact of the pieces of %s in another order = %v", paths(x), err)
			}
		})
	}
}

// P13.7: the pieces of greater trees' items, shuffled.
func TestOrdersByDice(t *testing.T) {
	dice := newDice()
	lists := [][]api.Item{long(), row(254)}
	for range 100 {
		x, _ := grown(dice, dice.IntN(25))
		lists = append(lists, x)
	}
	for _, x := range lists {
		l := piecesOf(t, x)
		for range 5 {
			dice.Shuffle(len(l), func(i, j int) { l[i], l[j] = l[j], l[i] })
			if got := holdRead(t, []byte(strings.Join(l, "")+end())); !got.same(answer{x, 0, api.OK}) {
				t.Fatalf("Read of the pieces of %s in another order = %v", paths(x), got)
			}
		}
	}
}

// P13.7: cut in two at each place, byte by byte, and with pieces of no bytes.
func TestPieces(t *testing.T) {
	for _, text := range []string{string(volumeOf(t, two())), more("path", "p") + entry("f", '0', "1") + end(), entry("a/b", '0', "") + end(), more() + end(), string(volumeOf(t, two()))[:2000]} {
		b := []byte(text)
		each := []int{}
		for at := range b {
			holdFed(t, b, at)
			each = append(each, at, at)
		}
		holdFed(t, b, each...)
	}
}

// What the library's writer of archives wrote, which knows nothing of this program, in the form that has no records: those it writes stand behind heads of another form.
func TestWrittenByOthers(t *testing.T) {
	dice := newDice()
	lists := [][]api.Item{nil, two(), small(), long()}
	for range 500 {
		x, _ := grown(dice, dice.IntN(15))
		lists = append(lists, x)
	}
	count := 0
	for _, x := range lists {
		b, ok := written(x)
		if !ok || len(b) > maxVolume {
			continue
		}
		count++
		if got := holdRead(t, b); !got.same(answer{x, 0, api.OK}) {
			t.Fatalf("Read of what others wrote of %s = %v", paths(x), got)
		}
	}
	if count < 50 {
		t.Errorf("%d archives alone", count)
	}
}

// written is a tree as the library's writer has it; false: it needs a form that is not the chapter's.
func written(x []api.Item) ([]byte, bool) {
	types := map[api.Kind]byte{isFile: tar.TypeReg, isFolder: tar.TypeDir, isHard: tar.TypeLink, isSoft: tar.TypeSymlink}
	var out bytes.Buffer
	to := tar.NewWriter(&out)
	for _, it := range x {
		h := &tar.Header{Format: tar.FormatUSTAR, Typeflag: types[it.Kind], Name: it.Path, Linkname: it.To, Size: int64(len(it.Body)), Mode: int64(it.Mode), ModTime: time.Unix(int64(it.Time), 0)}
		if to.WriteHeader(h) != nil {
			return nil, false
		}
		if _, err := to.Write(it.Body); err != nil {
			return nil, false
		}
	}
	if to.Close() != nil {
		return nil, false
	}
	return out.Bytes(), true
}

// walled are bytes between others, so that there is room behind their end.
func walled(b []byte) []byte {
	all := append(append([]byte{0xB5}, b...), 0xC7, 0xC8, 0xC9)
	return all[1 : 1+len(b)]
}

// scrawl writes all over a list and its Bodies, and the room behind their ends.
func scrawl(t []api.Item) {
	t = t[:cap(t)]
	for at := range t {
		scrawlBytes(t[at].Body)
		t[at] = api.Item{Path: "scrawl", To: "scrawl"}
	}
}

func scrawlBytes(b []byte) {
	b = b[:cap(b)]
	for at := range b {
		b[at] = 0xA5
	}
}

// somewhere are texts that are read, and some that are refused at each step.
func somewhere(tb testing.TB) []string {
	v := string(volumeOf(tb, long()))
	return []string{
		v, string(volumeOf(tb, small())), "", end(), v[:len(v)-1], v + "\x00", v[:5000] + "?" + v[5001:], v[512:],
		more("path", "p") + entry("f", '0', "1") + end(), more("zz", "p") + entry("f", '0', "1") + end(), more() + end(), of("\x00", maxVolume+1),
	}
}

// P13.8: arguments stay as they were, with the room behind their ends, whatever is done with the answer.
func TestArgumentsStay(t *testing.T) {
	for _, text := range somewhere(t) {
		b := walled([]byte(text))
		before := slices.Clone(b[:cap(b)])
		for what, quiet := range map[string]func(){
			"Read":  func() { u, _, _ := unpack.Read(b); scrawl(u) },
			"Exact": func() { u, _, _ := unpack.Exact(b); scrawl(u) },
			"Reader": func() {
				r := unpack.New()
				r.Feed(b[:len(b)/2])
				r.Feed(b[len(b)/2:])
				u, _, _ := r.Close()
				scrawl(u)
			},
			"one piece": func() {
				r := unpack.New()
				r.Feed(b)
				u, _, _ := r.Close()
				scrawl(u)
			},
		} {
			quiet()
			if !bytes.Equal(b[:cap(b)], before) {
				t.Fatalf("%s of %d bytes: what was handed in is another", what, len(text))
			}
		}
	}
}

// P13.8: arguments are not kept: answers stay, and a reader answers as if its pieces had stayed.
func TestArgumentsNotKept(t *testing.T) {
	for _, x := range [][]api.Item{small(), long()} {
		v := volumeOf(t, x)
		want := answer{x, 0, api.OK}
		b, c := slices.Clone(v), slices.Clone(v)
		read, exact := answered(unpack.Read(b)), answered(unpack.Exact(c))
		scrawlBytes(b)
		scrawlBytes(c)
		if !read.same(want) || !exact.same(want) {
			t.Errorf("the bytes of %s are kept", paths(x))
		}
		r := unpack.New()
		piece := make([]byte, 100)
		for from := 0; from < len(v); from += len(piece) {
			count := copy(piece, v[from:])
			r.Feed(piece[:count])
			scrawlBytes(piece)
		}
		if got := answered(r.Close()); !got.same(want) {
			t.Errorf("a reader keeps its pieces: %v", got)
		}
		whole := slices.Clone(v)
		r = unpack.New()
		r.Feed(whole)
		scrawlBytes(whole)
		if got := answered(r.Close()); !got.same(want) {
			t.Errorf("a reader keeps its one piece: %v", got)
		}
	}
}

// P13.8: no one holds bytes any more that the caller let go, be it by an answer or by a reader.
func TestBytesLetGo(t *testing.T) {
	v := volumeOf(t, []api.Item{filled("f", 5000)})
	r := unpack.New()
	var read, exact []api.Item
	for what, take := range map[string]func([]byte){
		"Feed":  func(b []byte) { r.Feed(b) },
		"Read":  func(b []byte) { read, _, _ = unpack.Read(b) },
		"Exact": func(b []byte) { exact, _, _ = unpack.Exact(b) },
	} {
		handedIn := func() weak.Pointer[[6656]byte] {
			b := new([6656]byte)
			copy(b[:], v)
			take(b[:])
			return weak.Make(b)
		}()
		for range 3 {
			runtime.GC()
		}
		if handedIn.Value() != nil {
			t.Errorf("%s keeps the bytes", what)
		}
	}
	if len(v) != 6656 || r.Len() != len(v) || len(read) != 1 || len(exact) != 1 {
		t.Error("the bytes were not taken")
	}
}

// P13.8: answers are the caller's own, and the Bodies of one answer share nothing, with the room behind their ends.
func TestAnswersTheirOwn(t *testing.T) {
	x := []api.Item{filled("a", 3), filled("b", 512), filled("c", 700), filled("d", 0), filled("e", 1)}
	v := volumeOf(t, x)
	fed := unpack.New()
	fed.Feed(v)
	for what, call := range map[string]func() answer{
		"Read":  func() answer { return answered(unpack.Read(v)) },
		"Exact": func() answer { return answered(unpack.Exact(v)) },
		"Close": func() answer { return answered(fed.Close()) },
	} {
		first := call()
		if !first.same(answer{x, 0, api.OK}) {
			t.Fatalf("%s = %v", what, first)
		}
		for at := range first.t {
			scrawlBytes(first.t[at].Body)
			_ = append(first.t[at].Body, 0xA6, 0xA7, 0xA8)
			if !tree.Same(first.t[at+1:], x[at+1:]) {
				t.Fatalf("%s: the Body at %d shares memory with another", what, at)
			}
		}
		scrawl(first.t)
		if second := answered(unpack.Read(v)); !second.same(answer{x, 0, api.OK}) {
			t.Fatalf("%s: its answer shares memory with another one", what)
		}
	}
}

// R1: any bytes at all.
func TestAnyBytes(t *testing.T) {
	dice := newDice()
	for range 2000 {
		b := make([]byte, dice.IntN(4000))
		for at := range b {
			if dice.IntN(3) == 0 {
				b[at] = byte(dice.IntN(256))
			}
		}
		holdRead(t, b)
	}
	for _, c := range []byte{0, 1, '0', 0xFF} {
		for size := range 2100 {
			holdRead(t, bytes.Repeat([]byte{c}, size))
		}
	}
}

// As many items as bytes may have, all of one path, or each in no folder.
func TestManyWrong(t *testing.T) {
	texts := []string{}
	for at := range 254 {
		texts = append(texts, entry(fmt.Sprintf("x/%03d", 253-at), '5', ""))
	}
	holdWrong(t, []wrong{
		{"254 of one path", of(entry("a", '5', ""), 254) + end(), 512, api.ErrSorted},
		{"254 in no folder, falling", strings.Join(texts, "") + end(), 253 * 512, api.ErrParent},
		{"127 times records", of(more()+entry("a", '5', ""), 127) + end(), 1536, api.ErrSorted},
	})
}

// madeOf makes bytes of others: pieces of heads and records as their numbers say, sealed or not.
func madeOf(data []byte) []byte {
	b := []byte{}
	for at := 0; at < len(data) && len(b) < 1<<16; at++ {
		text := pickAt(names, at)
		switch c := data[at]; {
		case c < 40:
			b = append(b, entry(text[:min(100, len(text))], "0512x"[c%5], of("b", int(c/5)%3))...)
		case c < 60:
			b = append(b, more("path", pickAt(names, int(c)))...)
		case c < 80:
			b = append(b, more("linkpath", pickAt(leads, int(c)))...)
		case c < 100:
			b = append(b, bare(api.Head{Name: pickAt(names[:10], int(c)), Prefix: "a", Link: pickAt(leads[:6], at), Type: "0512"[c%4]})...)
		case c < 110:
			b = append(b, noughts(512)...)
		case c < 120:
			b = append(b, entry(fmt.Sprint("f", at), '0', of("c", 600))...)
		default:
			b = append(b, c)
		}
	}
	return b
}

func pickAt(from []string, at int) string { return from[at%len(from)] }

func FuzzAll(f *testing.F) {
	f.Add([]byte{}, 0)
	f.Add([]byte{2, 0, 100, 100}, 7)
	f.Add([]byte{40, 0, 60, 3, 100, 100}, 513)
	f.Add([]byte{2, 80, 81, 82, 83, 110, 100, 100, 200}, 600)
	f.Add(volumeOf(f, small()), 1000)
	f.Add(volumeOf(f, long()), 1)
	f.Fuzz(func(t *testing.T, data []byte, cut int) {
		for _, b := range [][]byte{data, madeOf(data), append(madeOf(data), make([]byte, endSize)...)} {
			got := holdRead(t, b)
			holdFed(t, b, min(len(b), max(0, cut)))
			if got.err == api.OK {
				holdInside(t, got.t)
				holdAgain(t, b, got.t)
			}
		}
	})
}
