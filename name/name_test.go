package name_test

import (
	"cmp"
	"math/rand/v2"
	"slices"
	"strings"
	"testing"

	"tabulary/api"
	"tabulary/name"
)

func newDice() *rand.Rand { return rand.New(rand.NewPCG(8, 9)) }

// piece is what Each tells of one.
type piece struct {
	at   int
	text string
}

// pieces are those of a text, by the section 'Words', told by the library's Split.
func pieces(p string) []piece {
	var all []piece
	at := 0
	for _, text := range strings.Split(p, "/") {
		all = append(all, piece{at, text})
		at += len(text) + 1
	}
	return all
}

func isPart(text string) bool {
	return len(text) >= 1 && len(text) <= 120 && !strings.ContainsAny(text, "\x00/") && text != "." && text != ".."
}

func isPath(p string) bool {
	return len(p) <= 400 && !slices.ContainsFunc(strings.Split(p, "/"), func(text string) bool { return !isPart(text) })
}

// checked is P8.1 told line by line.
func checked(p string) (int, api.Errno) {
	if len(p) > 400 {
		return 0, api.ErrLong
	}
	for _, c := range pieces(p) {
		if c.text == "" {
			return c.at, api.ErrEmpty
		}
		if len(c.text) > 120 {
			return c.at, api.ErrLong
		}
		if c.text == "." || c.text == ".." {
			return c.at, api.ErrDots
		}
		for i := range len(c.text) {
			if c.text[i] == 0 {
				return c.at + i, api.ErrNul
			}
		}
	}
	return 0, api.OK
}

// joined is P8.2 told by checked.
func joined(parts []string) (string, api.Errno) {
	if len(parts) == 0 {
		return "", api.ErrNone
	}
	p := parts[0]
	for _, part := range parts[1:] {
		p += "/" + part
	}
	for _, part := range parts {
		if strings.ContainsRune(part, '/') {
			return "", api.ErrArg
		}
	}
	if _, err := checked(p); err != api.OK {
		return "", err
	}
	return p, api.OK
}

// compared is the order of the section 'Words', told by the library's lists.
func compared(a, b string) int { return slices.Compare(strings.Split(a, "/"), strings.Split(b, "/")) }

// above is P8.5 told by the pieces: all of them but the last one.
func above(p string) string {
	all := strings.Split(p, "/")
	return strings.Join(all[:len(all)-1], "/")
}

// beneath is P8.6 told by lists of parts.
func beneath(root, p string) bool {
	if !isPath(p) {
		return false
	}
	if root == "" {
		return true
	}
	first, all := strings.Split(root, "/"), strings.Split(p, "/")
	return isPath(root) && len(all) > len(first) && slices.Equal(all[:len(first)], first)
}

// cut is P8.7 told by trying each stroke.
func cut(p string) (string, string, api.Errno) {
	if _, err := checked(p); err != api.OK {
		return "", "", err
	}
	if len(p) <= 100 {
		return "", p, api.OK
	}
	for at := len(p) - 1; at >= 0; at-- {
		if p[at] == '/' && len(p[:at]) <= 155 && len(p[at+1:]) <= 100 {
			return p[:at], p[at+1:], api.OK
		}
	}
	return "", "", api.ErrLong
}

// led is P8.8 told by a list of parts, as the section 'Words' has it.
func led(from, to string) (string, api.Errno) {
	if _, err := checked(from); err != api.OK {
		return "", err
	}
	if to == "" {
		return "", api.ErrEmpty
	}
	if len(to) > 400 {
		return "", api.ErrLong
	}
	if strings.Contains(to, "\x00") {
		return "", api.ErrNul
	}
	if to[0] == '/' {
		return "", api.ErrAway
	}
	parts := strings.Split(from, "/")
	parts = parts[:len(parts)-1]
	for _, text := range strings.Split(to, "/") {
		switch text {
		case "", ".":
		case "..":
			if len(parts) == 0 {
				return "", api.ErrAway
			}
			parts = parts[:len(parts)-1]
		default:
			parts = append(slices.Clone(parts), text)
		}
	}
	return strings.Join(parts, "/"), api.OK
}

// texts are all of an alphabet up to so many bytes, the empty one first.
func texts(alphabet string, most int) []string {
	all := []string{""}
	last := all
	for range most {
		var longer []string
		for _, text := range last {
			for i := range len(alphabet) {
				longer = append(longer, text+alphabet[i:i+1])
			}
		}
		all = append(all, longer...)
		last = longer
	}
	return all
}

// anyText is of pieces that stand at the ends of what may be, and of any bytes.
func anyText(dice *rand.Rand) string {
	some := []string{"", ".", "..", "...", "a", "..a", "a..", ".a", "ab", "\x00", "a\x00", "\xff\xfe", "é", " ", strings.Repeat("x", 119), strings.Repeat("y", 120), strings.Repeat("z", 121)}
	var all []string
	for range 1 + dice.IntN(6) {
		all = append(all, some[dice.IntN(len(some))])
	}
	return strings.Join(all, "/")
}

// anyPath has parts of any lengths, with bytes on both sides of the stroke.
func anyPath(dice *rand.Rand, most int) string {
	for {
		var all []string
		for range 1 + dice.IntN(8) {
			part := make([]byte, 1+dice.IntN(most))
			for i := range part {
				part[i] = "ab.-0\x01\xff "[dice.IntN(8)]
			}
			all = append(all, string(part))
		}
		if p := strings.Join(all, "/"); isPath(p) {
			return p
		}
	}
}

// rowOf is a path of parts of these lengths.
func rowOf(lengths ...int) string {
	var all []string
	for i, length := range lengths {
		all = append(all, strings.Repeat(string(rune('a'+i)), length))
	}
	return strings.Join(all, "/")
}

func wantCheck(t *testing.T, p string, wantAt int, wantErr api.Errno) {
	t.Helper()
	at, err := name.Check(p)
	if at != wantAt || err != wantErr {
		t.Errorf("Check(%q): %d %v, not %d %v", p, at, err, wantAt, wantErr)
	}
}

func wantJoin(t *testing.T, parts []string, want string, wantErr api.Errno) {
	t.Helper()
	p, err := name.Join(parts)
	if p != want || err != wantErr {
		t.Errorf("Join(%q): %q %v, not %q %v", parts, p, err, want, wantErr)
	}
}

func wantEach(t *testing.T, p string, want ...piece) {
	t.Helper()
	var got []piece
	for at, text := range name.Each(p) {
		got = append(got, piece{at, text})
	}
	if !slices.Equal(got, want) {
		t.Errorf("Each(%q): %v, not %v", p, got, want)
	}
}

func wantCompare(t *testing.T, a, b string, want int) {
	t.Helper()
	if got := name.Compare(a, b); got != want {
		t.Errorf("Compare(%q, %q): %d, not %d", a, b, got, want)
	}
}

func wantUp(t *testing.T, p, want string) {
	t.Helper()
	if got := name.Up(p); got != want {
		t.Errorf("Up(%q): %q, not %q", p, got, want)
	}
}

func wantBeneath(t *testing.T, root, p string, want bool) {
	t.Helper()
	if got := name.Beneath(root, p); got != want {
		t.Errorf("Beneath(%q, %q): %v", root, p, got)
	}
}

func wantSplit(t *testing.T, p, wantPrefix, wantName string, wantErr api.Errno) {
	t.Helper()
	prefix, rest, err := name.Split(p)
	if prefix != wantPrefix || rest != wantName || err != wantErr {
		t.Errorf("Split(%q): %q %q %v, not %q %q %v", p, prefix, rest, err, wantPrefix, wantName, wantErr)
	}
}

func wantLead(t *testing.T, from, to, want string, wantErr api.Errno) {
	t.Helper()
	got, err := name.Lead(from, to)
	if got != want || err != wantErr {
		t.Errorf("Lead(%q, %q): %q %v, not %q %v", from, to, got, err, want, wantErr)
	}
}

// wantText asks the calls that take one text of what the chapter's words say.
func wantText(t *testing.T, p string) {
	t.Helper()
	at, err := checked(p)
	wantCheck(t, p, at, err)
	if (err == api.OK) != isPath(p) {
		t.Fatalf("%q: %v of P8.1, %v of the section 'Words'", p, err, isPath(p))
	}
	wantEach(t, p, pieces(p)...)
	wantUp(t, p, above(p))
	prefix, rest, err := cut(p)
	wantSplit(t, p, prefix, rest, err)
	parts := strings.Split(p, "/")
	joint, err := joined(parts)
	wantJoin(t, parts, joint, err)
	if len(p) > 0 {
		joint, err = joined([]string{p[:1], p[1:]})
		wantJoin(t, []string{p[:1], p[1:]}, joint, err)
	}
}

// wantTexts asks the calls that take two texts of what the chapter's words say.
func wantTexts(t *testing.T, a, b string) {
	t.Helper()
	wantCompare(t, a, b, compared(a, b))
	wantBeneath(t, a, b, beneath(a, b))
	reached, err := led(a, b)
	wantLead(t, a, b, reached, err)
}

// The chapter's table of examples, line by line.
func TestExamples(t *testing.T) {
	wantCheck(t, "a/b c", 0, api.OK)
	wantCheck(t, "", 0, api.ErrEmpty)
	wantCheck(t, "/a", 0, api.ErrEmpty)
	wantCheck(t, "a/", 2, api.ErrEmpty)
	wantCheck(t, "a/../b", 2, api.ErrDots)
	wantCheck(t, "a/...", 0, api.OK)
	wantCheck(t, "a\x00", 1, api.ErrNul)
	wantJoin(t, []string{"a", "b"}, "a/b", api.OK)
	wantJoin(t, nil, "", api.ErrNone)
	wantJoin(t, []string{"a/b"}, "", api.ErrArg)
	wantJoin(t, []string{".."}, "", api.ErrDots)
	wantEach(t, "a//b", piece{0, "a"}, piece{2, ""}, piece{3, "b"})
	wantCompare(t, "a/b", "a-b", -1)
	wantCompare(t, "a", "a/b", -1)
	wantCompare(t, "b", "a/z", 1)
	wantUp(t, "a/b/c", "a/b")
	wantUp(t, "a", "")
	wantBeneath(t, "a", "a/b", true)
	wantBeneath(t, "a", "ab", false)
	wantBeneath(t, "", "a", true)
	x, y := strings.Repeat("x", 90), strings.Repeat("y", 90)
	wantSplit(t, x+"/"+y, x, y, api.OK)
	wantSplit(t, strings.Repeat("x", 110), "", "", api.ErrLong)
	wantLead(t, "a/b/l", "../c", "a/c", api.OK)
	wantLead(t, "l", "../c", "", api.ErrAway)
	wantLead(t, "a/l", "..", "", api.OK)
	wantLead(t, "a/l", "/c", "", api.ErrAway)
	wantLead(t, "a/l", "x/./y//", "a/x/y", api.OK)
	wantLead(t, "a/l", "..a", "a/..a", api.OK)
}

// P8.1 to P8.3, P8.5, P8.7: every short text of the bytes that tell.
func TestAllShortTexts(t *testing.T) {
	for _, p := range texts("/.a\x00", 7) {
		wantText(t, p)
	}
	for _, p := range texts("/.a\x00\x01-0\xff", 4) {
		wantText(t, p)
	}
}

// P8.4, P8.6, P8.8: every two short texts of the bytes that tell.
func TestAllShortTwo(t *testing.T) {
	for _, alphabet := range []string{"/a.", "/\x000", "/.\xff"} {
		all := texts(alphabet, 5)
		for _, a := range all {
			for _, b := range all {
				wantTexts(t, a, b)
			}
		}
	}
}

// P8.1 to P8.8: long texts, of pieces at the ends of what may be.
func TestAnyTexts(t *testing.T) {
	dice := newDice()
	for range 20000 {
		a, b := anyText(dice), anyText(dice)
		wantText(t, a)
		wantTexts(t, a, b)
		p := anyPath(dice, 60)
		wantText(t, p)
		wantTexts(t, p, b)
		wantTexts(t, name.Up(p), p)
	}
}

// P8.1: the last lengths that may be, and one past each.
func TestCheckLengths(t *testing.T) {
	for length := 1; length <= 401; length++ {
		part, path := api.OK, api.OK
		if length > 120 {
			part = api.ErrLong
		}
		if length > 400 {
			path = api.ErrLong
		}
		wantCheck(t, strings.Repeat("x", length), 0, part)
		wantCheck(t, strings.Repeat("a/", (length-1)/2)+strings.Repeat("b", 1+(length-1)%2), 0, path)
	}
	wantCheck(t, rowOf(120, 120, 120, 37), 0, api.OK)
	wantCheck(t, rowOf(120, 120, 120, 38), 0, api.ErrLong)
	wantCheck(t, rowOf(120, 121), 121, api.ErrLong)
	wantCheck(t, rowOf(1, 1, 121, 121), 4, api.ErrLong)
	wantCheck(t, strings.Repeat("x", 1<<20), 0, api.ErrLong)
	wantCheck(t, strings.Repeat("/", 1<<20), 0, api.ErrLong)
}

// P8.1: of several errors the first one: the whole's length, then piece by piece, and in a piece as they are told.
func TestCheckFirst(t *testing.T) {
	wantCheck(t, "a/"+strings.Repeat("/", 399), 0, api.ErrLong)
	wantCheck(t, "../"+strings.Repeat("a/", 200), 0, api.ErrLong)
	wantCheck(t, "\x00"+strings.Repeat("a", 400), 0, api.ErrLong)
	wantCheck(t, "a\x00/..//b", 1, api.ErrNul)
	wantCheck(t, "ab/../\x00//", 3, api.ErrDots)
	wantCheck(t, "ab//../\x00", 3, api.ErrEmpty)
	wantCheck(t, "a/"+strings.Repeat("\x00", 121), 2, api.ErrLong)
	wantCheck(t, "a/"+strings.Repeat("x", 121)+"/\x00", 2, api.ErrLong)
	wantCheck(t, "ab/c\x00d\x00", 4, api.ErrNul)
	wantCheck(t, "ab/"+strings.Repeat("x", 119)+"\x00", 122, api.ErrNul)
	wantCheck(t, ".\x00", 1, api.ErrNul)
	wantCheck(t, "..\x00", 2, api.ErrNul)
}

// P8.1: each byte but 00 and the stroke may stand in a part; bytes that are no runes too.
func TestCheckBytes(t *testing.T) {
	for c := range 256 {
		p := "a/x" + string([]byte{byte(c)}) + "y"
		switch c {
		case 0:
			wantCheck(t, p, 3, api.ErrNul)
		default:
			wantCheck(t, p, 0, api.OK)
		}
	}
	for _, part := range []string{"...", ".a", "..a", "a.", "a..", ". ", " .", "....", ".-", "\\", "\xc0\xaf", "\u2025", "\uff0f"} {
		wantCheck(t, part, 0, api.OK)
		wantCheck(t, "a/"+part+"/b", 0, api.OK)
	}
	for _, part := range []string{".", ".."} {
		wantCheck(t, part, 0, api.ErrDots)
		wantCheck(t, "ab/"+part, 3, api.ErrDots)
		wantCheck(t, part+"/ab", 0, api.ErrDots)
	}
}

// P8.2: errors in their order, of the whole list; a part in it does not tell where another one has a stroke.
func TestJoinErrors(t *testing.T) {
	wantJoin(t, []string{}, "", api.ErrNone)
	wantJoin(t, []string{""}, "", api.ErrEmpty)
	wantJoin(t, []string{"", ""}, "", api.ErrEmpty)
	wantJoin(t, []string{"a", ""}, "", api.ErrEmpty)
	wantJoin(t, []string{"", "a"}, "", api.ErrEmpty)
	wantJoin(t, []string{"", "a/"}, "", api.ErrArg)
	wantJoin(t, []string{"..", "/"}, "", api.ErrArg)
	wantJoin(t, []string{"/a", "b"}, "", api.ErrArg)
	wantJoin(t, []string{"a", "b/"}, "", api.ErrArg)
	wantJoin(t, []string{strings.Repeat("x", 500), "a/b"}, "", api.ErrArg)
	wantJoin(t, []string{strings.Repeat("x", 500) + "/"}, "", api.ErrArg)
	wantJoin(t, []string{"a", strings.Repeat("x", 121)}, "", api.ErrLong)
	wantJoin(t, []string{"a", "b\x00"}, "", api.ErrNul)
	wantJoin(t, []string{".", "\x00"}, "", api.ErrDots)
	wantJoin(t, []string{"\x00", "."}, "", api.ErrNul)
	wantJoin(t, slices.Repeat([]string{"a"}, 200), strings.Repeat("a/", 199)+"a", api.OK)
	wantJoin(t, slices.Repeat([]string{"a"}, 201), "", api.ErrLong)
	wantJoin(t, slices.Repeat([]string{""}, 401), "", api.ErrEmpty)
	wantJoin(t, slices.Repeat([]string{""}, 402), "", api.ErrLong)
}

// P8.2 and P8.3: the pieces of a path, put together, are the path.
func TestJoinOfEach(t *testing.T) {
	dice := newDice()
	for range 2000 {
		p := anyPath(dice, 120)
		var parts []string
		for at, text := range name.Each(p) {
			if p[at:at+len(text)] != text {
				t.Errorf("Each(%q): %q is not at %d", p, text, at)
			}
			parts = append(parts, text)
		}
		wantJoin(t, parts, p, api.OK)
	}
}

// R3: neither the list nor the room behind its end is changed.
func TestJoinArgumentStays(t *testing.T) {
	room := []string{"a", "b", "c/", "\x00"}
	wantJoin(t, room[:2], "a/b", api.OK)
	wantJoin(t, room[:3], "", api.ErrArg)
	if !slices.Equal(room, []string{"a", "b", "c/", "\x00"}) {
		t.Errorf("the list became %q", room)
	}
}

// P8.3: texts that are no paths have pieces too, however long they are.
func TestEach(t *testing.T) {
	wantEach(t, "", piece{0, ""})
	wantEach(t, "/", piece{0, ""}, piece{1, ""})
	wantEach(t, "//", piece{0, ""}, piece{1, ""}, piece{2, ""})
	wantEach(t, "/a", piece{0, ""}, piece{1, "a"})
	wantEach(t, "ab/", piece{0, "ab"}, piece{3, ""})
	wantEach(t, "../.\x00", piece{0, ".."}, piece{3, ".\x00"})
	wantEach(t, "é/b", piece{0, "é"}, piece{3, "b"})
	long := strings.Repeat("ab/", 1<<16) + strings.Repeat("x", 1<<16)
	wantEach(t, long, pieces(long)...)
}

// P8.3: stopped at each of its pieces it tells no more, and gone over again it tells all.
func TestEachStopped(t *testing.T) {
	for _, p := range []string{"", "a", "a/b/c", "//", "a//b/"} {
		seq, all := name.Each(p), pieces(p)
		for stop := range all {
			var got []piece
			seq(func(at int, text string) bool {
				got = append(got, piece{at, text})
				return len(got) <= stop
			})
			if !slices.Equal(got, all[:stop+1]) {
				t.Errorf("Each(%q) stopped at %d: %v", p, stop, got)
			}
			got = nil
			for at, text := range seq {
				got = append(got, piece{at, text})
			}
			if !slices.Equal(got, all) {
				t.Errorf("Each(%q) again: %v", p, got)
			}
		}
	}
}

// P8.3 and R2: one going over within another one of the same iterator.
func TestEachNested(t *testing.T) {
	const p = "a//b/cd"
	seq, all := name.Each(p), pieces(p)
	var outer []piece
	for at, text := range seq {
		outer = append(outer, piece{at, text})
		var inner []piece
		for at, text := range seq {
			inner = append(inner, piece{at, text})
		}
		if !slices.Equal(inner, all) {
			t.Errorf("within: %v", inner)
		}
	}
	if !slices.Equal(outer, all) {
		t.Errorf("about it: %v", outer)
	}
}

// P8.4: what differs from an order of bytes, and from one of lengths.
func TestCompare(t *testing.T) {
	rising := []string{"", "/", "//", "//a", "/a", "\x00", "\x00/a", "\x00\x00", "\x01", ".", "../a", "a", "a/", "a/\x00", "a/b", "a/b/", "a/b/a", "a/bb", "a/c", "a\x00", "a\x00/b", "a ", "a!", "a-", "a-/b", "a.", "a.b", "a0", "aa", "aa/a", "ab", "b", "b/a", "\x7f", "\x80", "é", "\xff", "\xff/a", "\xff\xff"}
	for i, a := range rising {
		for k, b := range rising {
			wantCompare(t, a, b, cmp.Compare(i, k))
		}
	}
	long := strings.Repeat("ab/", 1<<16)
	wantCompare(t, long, long, 0)
	wantCompare(t, long, long+"/", -1)
	wantCompare(t, long+"/", long, 1)
	wantCompare(t, long+"b", long+"a/a", 1)
	wantCompare(t, long+"a-", long+"a/z", 1)
}

// P8.5: any text.
func TestUp(t *testing.T) {
	for p, want := range map[string]string{"": "", "/": "", "//": "/", "/a": "", "a/": "a", "a//": "a/", "a//b": "a/", "../x": "..", "abc": "", "\x00/\x00": "\x00", "é/b": "é"} {
		wantUp(t, p, want)
	}
	long := strings.Repeat("ab/", 1<<16)
	wantUp(t, long, long[:len(long)-1])
	wantUp(t, strings.Repeat("x", 1<<16), "")
}

// P8.6: roots that are none, and paths that are none.
func TestBeneath(t *testing.T) {
	for _, c := range []struct {
		root, p string
		want    bool
	}{
		{"a", "a", false}, {"a/b", "a", false}, {"a/b", "a/b/c", true}, {"a", "a/b/c", true}, {"a/b", "a/bc", false}, {"b", "a/b", false},
		{"a/", "a/b", false}, {"/", "/a", false}, {"/", "a", false}, {"/a", "/a/b", false}, {".", "./a", false}, {"..", "../a", false}, {"a\x00", "a\x00/b", false},
		{"", "", false}, {"", "/", false}, {"", "a/", false}, {"", "..", false}, {"", "a\x00", false}, {"", strings.Repeat("x", 121), false}, {"", rowOf(100, 100, 100, 98), false}, {"", rowOf(100, 100, 100, 97), true},
		{"a", "a/", false}, {"a", "a//b", false}, {"a", "a/..", false}, {"a", "a/b\x00", false}, {"a", "a/" + strings.Repeat("x", 121), false}, {"a", "a/" + strings.Repeat("x", 120), true},
		{rowOf(100, 100, 100, 95), rowOf(100, 100, 100, 95, 1), true}, {rowOf(100, 100, 100, 96), rowOf(100, 100, 100, 96, 1), false}, {strings.Repeat("a", 1<<16), "a/b", false},
	} {
		wantBeneath(t, c.root, c.p, c.want)
	}
}

// P8.7: lengths of a prefix and of a name at what may be, and one past it.
func TestSplitLengths(t *testing.T) {
	whole := func(p string) { t.Helper(); wantSplit(t, p, "", p, api.OK) }
	at := func(p string, stroke int) { t.Helper(); wantSplit(t, p, p[:stroke], p[stroke+1:], api.OK) }
	never := func(p string) { t.Helper(); wantSplit(t, p, "", "", api.ErrLong) }
	whole("a")
	whole("a/b")
	whole(rowOf(100))
	whole(rowOf(50, 49))
	whole(rowOf(1, 98))
	at(rowOf(50, 50), 50)
	at(rowOf(1, 99), 1)
	at(rowOf(1, 100), 1)
	never(rowOf(1, 101))
	never(rowOf(101))
	never(rowOf(120))
	at(rowOf(100, 1), 100)
	at(rowOf(120, 34, 100), 155)
	never(rowOf(120, 35, 99))
	never(rowOf(120, 34, 101))
	at(rowOf(120, 20, 13, 85), 155)
	at(rowOf(120, 20, 14, 85), 141)
	never(rowOf(120, 20, 14, 86))
	at(rowOf(60, 60, 35, 50), 121)
	at(rowOf(60, 60, 33, 50), 155)
	never(rowOf(120, 120, 120, 37))
	at(rowOf(40, 40, 40, 40), 122)
}

// P8.7: Check's errors, without their place; ErrLong of a text too long is Check's.
func TestSplitErrors(t *testing.T) {
	wantSplit(t, "", "", "", api.ErrEmpty)
	wantSplit(t, "a//b", "", "", api.ErrEmpty)
	wantSplit(t, "a/..", "", "", api.ErrDots)
	wantSplit(t, "ab/c\x00", "", "", api.ErrNul)
	wantSplit(t, rowOf(90, 90)+"/", "", "", api.ErrEmpty)
	wantSplit(t, rowOf(90, 90)+"/.", "", "", api.ErrDots)
	wantSplit(t, rowOf(90, 90)+"\x00", "", "", api.ErrNul)
	wantSplit(t, strings.Repeat("a/", 200)+"a", "", "", api.ErrLong)
}

// P8.8: errors in their order, the one of from first.
func TestLeadErrors(t *testing.T) {
	long := strings.Repeat("x", 401)
	for _, c := range []struct {
		from, to string
		err      api.Errno
	}{
		{"", "", api.ErrEmpty}, {"a/..", "", api.ErrDots}, {"a\x00", "", api.ErrNul}, {"a/" + strings.Repeat("x", 121), "", api.ErrLong}, {"..", "/", api.ErrDots}, {"a//b", "\x00", api.ErrEmpty},
		{"a", "", api.ErrEmpty}, {"a", long, api.ErrLong}, {"a", long + "\x00", api.ErrLong}, {"a", "/" + long, api.ErrLong}, {"a", strings.Repeat("../", 200), api.ErrLong},
		{"a", "\x00", api.ErrNul}, {"a", "/\x00", api.ErrNul}, {"a", "../\x00", api.ErrNul}, {"a", "b/..\x00", api.ErrNul}, {"a", strings.Repeat("x", 399) + "\x00", api.ErrNul},
		{"a", "/", api.ErrAway}, {"a", "/a", api.ErrAway}, {"a/b", "//..", api.ErrAway}, {"a", "..", api.ErrAway}, {"a/b", "../..", api.ErrAway}, {"a/b", "../../a/c", api.ErrAway}, {"a", "../a", api.ErrAway}, {"a", "./..", api.ErrAway}, {"a", "b/../../c", api.ErrAway}, {"a", "b/..//..", api.ErrAway}, {"a/b/c", "../../..", api.ErrAway},
	} {
		wantLead(t, c.from, c.to, "", c.err)
	}
}

// P8.8: the way, piece by piece; what it comes to may be longer than a path, or have parts that are.
func TestLeadWay(t *testing.T) {
	for _, c := range []struct{ from, to, want string }{
		{"a", "b", "b"}, {"a", "a", "a"}, {"a/b", "c", "a/c"}, {"a", ".", ""}, {"a/b", ".", "a"}, {"a/b", "./", "a"}, {"a/b", "..", ""}, {"a/b", "../", ""}, {"a/b/c", "../..", ""}, {"a/b/c", "..", "a"}, {"a/b/c", ".././/..//", ""},
		{"a", "b/..", ""}, {"a", "b/../c", "c"}, {"a", "b/c/../../d", "d"}, {"a/b", "c/..", "a"}, {"a/b", "../a/b", "a/b"}, {"a/b", "...", "a/..."}, {"a/b", "....", "a/...."}, {"a/b", ".. ", "a/.. "}, {"a/b", " ", "a/ "}, {"a/b", "\xff", "a/\xff"}, {"a/b", "c//", "a/c"}, {"a/b", "c/.", "a/c"},
		{"a/b", strings.Repeat("../x/", 79) + "..", ""}, {"a/b", strings.Repeat("x/../", 80), "a"}, {"a", strings.Repeat("./", 200), ""},
	} {
		wantLead(t, c.from, c.to, c.want, api.OK)
	}
	part := strings.Repeat("x", 400)
	wantLead(t, "a", part, part, api.OK)
	wantLead(t, "a/b", part, "a/"+part, api.OK)
	from, to := rowOf(120, 120, 120, 37), strings.Repeat("y/", 199)+"y"
	wantLead(t, from, to, from[:362]+"/"+to, api.OK)
	deep := strings.Repeat("a/", 199) + "a"
	wantLead(t, deep, strings.Repeat("../", 133), strings.Repeat("a/", 65)+"a", api.OK)
	wantLead(t, strings.Repeat("a/", 133)+"a", strings.Repeat("../", 133)+".", "", api.OK)
	wantLead(t, strings.Repeat("a/", 132)+"a", strings.Repeat("../", 133), "", api.ErrAway)
}

// P8.9: texts put in order by the lists of their pieces rise, each ahead of all behind it: so any two, and any three.
func TestOneOrder(t *testing.T) {
	for _, alphabet := range []string{"/a\x00", "/-0", "/.\xff"} {
		all := texts(alphabet, 5)
		slices.SortFunc(all, compared)
		for i, a := range all {
			for k, b := range all {
				if name.Compare(a, b) != cmp.Compare(i, k) {
					t.Fatalf("Compare(%q, %q): %d at %d and %d", a, b, name.Compare(a, b), i, k)
				}
			}
		}
	}
}

// P8.9: of paths in Compare's order those beneath one stand right behind it, side by side.
func TestFoldersStandTogether(t *testing.T) {
	dice := newDice()
	all := texts("/a-0", 6)
	for range 500 {
		for p := anyPath(dice, 3); p != ""; p = name.Up(p) {
			all = append(all, p)
		}
	}
	all = slices.DeleteFunc(all, func(p string) bool { return !isPath(p) })
	slices.SortFunc(all, name.Compare)
	all = slices.Compact(all)
	for i, root := range all {
		end := i + 1
		for end < len(all) && name.Beneath(root, all[end]) {
			end++
		}
		for k, p := range all {
			if name.Beneath(root, p) != (k > i && k < end) {
				t.Errorf("%q at %d and %q at %d of those up to %d", root, i, p, k, end)
			}
		}
	}
}

// P8.10: what Split cuts it did not change, and each path that has a cut is cut.
func TestCutAndPutTogether(t *testing.T) {
	dice := newDice()
	cuts, never := 0, 0
	for range 50000 {
		p := anyPath(dice, 1+dice.IntN(120))
		prefix, rest, err := name.Split(p)
		may := len(p) <= 100
		for _, c := range pieces(p)[1:] {
			may = may || c.at-1 <= 155 && len(p)-c.at <= 100
		}
		if may != (err == api.OK) {
			t.Errorf("Split(%q): %v", p, err)
		}
		if err != api.OK {
			never++
			continue
		}
		if prefix != "" {
			cuts++
			rest = prefix + "/" + rest
		}
		if rest != p || len(prefix) > 155 || len(rest)-len(prefix) > 101 {
			t.Errorf("Split(%q): %q and %q", p, prefix, rest)
		}
	}
	if cuts < 1000 || never < 1000 {
		t.Errorf("%d cut, %d refused", cuts, never)
	}
}

// P8.11: whatever a link's text is, what it leads to is in the root.
func TestInside(t *testing.T) {
	dice := newDice()
	some := []string{"", ".", "..", "..", "...", "a", "b", "..a", ".a", strings.Repeat("x", 130)}
	inside := 0
	for range 50000 {
		var all []string
		for range 1 + dice.IntN(8) {
			all = append(all, some[dice.IntN(len(some))])
		}
		from := anyPath(dice, 5)
		reached, err := name.Lead(from, strings.Join(all, "/"))
		if err != api.OK || reached == "" {
			continue
		}
		inside++
		for _, text := range strings.Split(reached, "/") {
			if text == "" || text == "." || text == ".." || strings.Contains(text, "\x00") {
				t.Errorf("Lead(%q, %q): %q", from, all, reached)
			}
		}
	}
	if inside < 5000 {
		t.Errorf("%d led to something", inside)
	}
}

// P8.11: a part leads to what stands beside the link.
func TestLeadToPart(t *testing.T) {
	dice := newDice()
	for range 5000 {
		from := anyPath(dice, 40)
		part := name.Up(anyPath(dice, 30) + "/x")
		if !isPart(part) {
			part = "..."
		}
		want := part
		if up := name.Up(from); up != "" {
			want = up + "/" + part
		}
		wantLead(t, from, part, want, api.OK)
	}
	for _, part := range texts(".a-", 3) {
		if isPart(part) {
			wantLead(t, "b", part, part, api.OK)
			wantLead(t, "b/c/d", part, "b/c/"+part, api.OK)
		}
	}
}

// R1: any bytes of any length are answered, as the chapter says.
func FuzzTexts(f *testing.F) {
	for _, two := range [][2]string{{"", ""}, {"a/b", "../c"}, {"a//b", "/"}, {"a\x00", ".\x00"}, {rowOf(90, 90), rowOf(121)}, {rowOf(120, 120, 120, 38), "..."}} {
		f.Add(two[0], two[1])
	}
	f.Fuzz(func(t *testing.T, a, b string) {
		wantText(t, a)
		wantTexts(t, a, b)
		wantTexts(t, b, a)
	})
}
