package tree_test

import (
	"bytes"
	"fmt"
	"math"
	"math/rand/v2"
	"reflect"
	"slices"
	"strings"
	"testing"

	"tabulary/api"
	"tabulary/name"
	"tabulary/tree"
)

const (
	isFile   = api.Kind(1)
	isFolder = api.Kind(2)
	isHard   = api.Kind(3)
	isSoft   = api.Kind(4)

	maxTime = 1099511627776
)

func newDice() *rand.Rand { return rand.New(rand.NewPCG(11, 8)) }

func file(path string, body ...byte) api.Item {
	return api.Item{Path: path, Kind: isFile, Mode: 420, Time: 7, Body: body}
}

func folder(path string) api.Item { return api.Item{Path: path, Kind: isFolder, Mode: 493, Time: 9} }

func hard(path, to string) api.Item { return api.Item{Path: path, Kind: isHard, To: to} }

func soft(path, to string) api.Item { return api.Item{Path: path, Kind: isSoft, Time: 5, To: to} }

// small is the tree t of the chapter's examples.
func small() []api.Item {
	return []api.Item{folder("a"), file("a/f", 1, 2, 3), hard("a/h", "a/f"), soft("a/s", "f"), soft("l", "a")}
}

// wide has items of each kind on several floors, and names that stand otherwise by their bytes alone.
func wide() []api.Item {
	return []api.Item{
		folder("a"), folder("a/b"), file("a/b/c", 9), soft("a/b/up", "../.."), file("a/f", 1, 2), hard("a/h", "a/b/c"), soft("a/t", "../g"),
		file("a-b"), folder("d"), soft("d/l", "../a"), folder("e"), file("g", 4), hard("z", "a/f"),
	}
}

// twin is a copy of a list that shares nothing with it.
func twin(t []api.Item) []api.Item {
	u := slices.Clone(t)
	for at := range u {
		u[at].Body = bytes.Clone(u[at].Body)
	}
	return u
}

// same is P11.3 told field by field.
func same(t, u []api.Item) bool {
	if len(t) != len(u) {
		return false
	}
	for at := range t {
		x, y := t[at], u[at]
		if string(x.Body) != string(y.Body) {
			return false
		}
		x.Body, y.Body = nil, nil
		if !reflect.DeepEqual(x, y) {
			return false
		}
	}
	return true
}

// order is layer 8's order, by the pieces as a list.
func order(a, b string) int { return slices.Compare(strings.Split(a, "/"), strings.Split(b, "/")) }

// up is layer 8's Up, by the pieces as a list.
func up(p string) string {
	parts := strings.Split(p, "/")
	return strings.Join(parts[:len(parts)-1], "/")
}

// isBeneath is layer 8's Beneath, by the pieces as lists.
func isBeneath(root, p string) bool {
	if _, err := name.Check(p); err != api.OK {
		return false
	}
	if root == "" {
		return true
	}
	r, parts := strings.Split(root, "/"), strings.Split(p, "/")
	return len(parts) > len(r) && slices.Equal(parts[:len(r)], r)
}

// wrong is P11.1, told error by error.
func wrong(it api.Item) api.Errno {
	link := it.Kind == isHard || it.Kind == isSoft
	if _, err := name.Check(it.Path); err != api.OK {
		return err
	}
	if it.Kind == 0 || it.Kind > 4 {
		return api.ErrArg
	}
	if it.Time < 0 || it.Time > maxTime || it.Kind == isHard && it.Time != 0 {
		return api.ErrArg
	}
	if it.Mode < 0 || it.Mode > 4095 || link && it.Mode != 0 {
		return api.ErrArg
	}
	if len(it.Body) != 0 && it.Kind != isFile || it.To != "" && !link {
		return api.ErrItem
	}
	if len(it.Body) > 65536 {
		return api.ErrLong
	}
	err := api.OK
	switch it.Kind {
	case isHard:
		_, err = name.Check(it.To)
	case isSoft:
		_, err = name.Lead(it.Path, it.To)
	}
	return err
}

// isThere tells whether a list has an item of a path and a kind.
func isThere(t []api.Item, path string, kind api.Kind) bool {
	for _, it := range t {
		if it.Path == path && it.Kind == kind {
			return true
		}
	}
	return false
}

// fault is P11.2, told error by error.
func fault(t []api.Item) (int, api.Errno) {
	if len(t) > 256 {
		return 256, api.ErrFull
	}
	for at, it := range t {
		if err := wrong(it); err != api.OK {
			return at, err
		}
		if at > 0 && order(t[at-1].Path, it.Path) >= 0 {
			return at, api.ErrSorted
		}
		if up(it.Path) != "" && !isThere(t[:at], up(it.Path), isFolder) {
			return at, api.ErrParent
		}
		if it.Kind == isHard && !isThere(t[:at], it.To, isFile) {
			return at, api.ErrHard
		}
	}
	return 0, api.OK
}

// isTree is the Words' tree: any two items are held against each other, and folders are looked for in all of the list.
func isTree(t []api.Item) bool {
	if len(t) > 256 {
		return false
	}
	for at, it := range t {
		if wrong(it) != api.OK {
			return false
		}
		for _, later := range t[at+1:] {
			if order(it.Path, later.Path) >= 0 {
				return false
			}
		}
		if up(it.Path) != "" && !isThere(t, up(it.Path), isFolder) {
			return false
		}
		if it.Kind == isHard && !isThere(t[:at], it.To, isFile) {
			return false
		}
	}
	return true
}

// sorted takes, again and again, the first of the least.
func sorted(t []api.Item) []api.Item {
	rest, u := slices.Clone(t), []api.Item{}
	for len(rest) > 0 {
		least := 0
		for at := range rest {
			if order(rest[at].Path, rest[least].Path) < 0 {
				least = at
			}
		}
		u = append(u, rest[least])
		rest = slices.Delete(rest, least, least+1)
	}
	return u
}

// with is P11.7 told over again.
func with(t []api.Item, it api.Item) ([]api.Item, api.Errno) {
	if _, err := fault(t); err != api.OK {
		return nil, err
	}
	u, put := []api.Item{}, false
	for _, x := range t {
		if !put && order(it.Path, x.Path) <= 0 {
			u, put = append(u, it), true
		}
		if x.Path != it.Path {
			u = append(u, x)
		}
	}
	if !put {
		u = append(u, it)
	}
	if _, err := fault(u); err != api.OK {
		return nil, err
	}
	return u, api.OK
}

// without is P11.8 told over again.
func without(t []api.Item, path string) ([]api.Item, api.Errno) {
	if _, err := fault(t); err != api.OK {
		return nil, err
	}
	u, gone := []api.Item{}, false
	for _, x := range t {
		switch {
		case x.Path == path:
			gone = true
		case !isBeneath(path, x.Path):
			u = append(u, x)
		}
	}
	if !gone {
		return nil, api.ErrNone
	}
	if _, err := fault(u); err != api.OK {
		return nil, err
	}
	return u, api.OK
}

// parts are those of a path; none of the root.
func parts(path string) []string {
	if path == "" {
		return nil
	}
	return strings.Split(path, "/")
}

// followed is P11.9 and the Words' following, with what is reached and what is to go as lists of parts.
func followed(t []api.Item, path string) (string, api.Errno) {
	if _, err := fault(t); err != api.OK {
		return "", err
	}
	if path == "" {
		return "", api.OK
	}
	if _, err := name.Check(path); err != api.OK {
		return "", err
	}
	there := map[string]api.Item{}
	for _, it := range t {
		there[it.Path] = it
	}
	reached, toGo, met := []string{}, parts(path), 0
	for len(toGo) > 0 {
		reached = append(slices.Clone(reached), toGo[0])
		toGo = toGo[1:]
		it, ok := there[strings.Join(reached, "/")]
		if !ok {
			return "", api.ErrNone
		}
		if it.Kind == isHard {
			it = there[it.To]
			reached = parts(it.Path)
		}
		if it.Kind == isFile && len(toGo) > 0 {
			return "", api.ErrNone
		}
		if it.Kind == isSoft {
			if met == 40 {
				return "", api.ErrLoop
			}
			met++
			to, _ := name.Lead(it.Path, it.To)
			reached, toGo = nil, slices.Concat(parts(to), toGo)
		}
	}
	return strings.Join(reached, "/"), api.OK
}

// paths tells a list's Paths.
func paths(t []api.Item) string {
	all := []string{}
	for _, it := range t {
		all = append(all, it.Path)
	}
	return strings.Join(all, " ")
}

// holdCheck holds May of each item and Check against the model.
func holdCheck(tb testing.TB, t []api.Item) {
	tb.Helper()
	for _, it := range t {
		if err := tree.May(it); err != wrong(it) {
			tb.Fatalf("May(%+v) = %v, not %v", it, err, wrong(it))
		}
	}
	at, err := tree.Check(t)
	wantAt, want := fault(t)
	if at != wantAt || err != want {
		tb.Fatalf("Check(%+v) = %d, %v, not %d, %v", t, at, err, wantAt, want)
	}
	if (err == api.OK) != isTree(t) {
		tb.Fatalf("Check(%+v) = %v, but whether it is a tree: %v", t, err, isTree(t))
	}
}

// holdLists holds what any list is asked for against the model.
func holdLists(tb testing.TB, t []api.Item, path string) {
	tb.Helper()
	if u := tree.Sort(t); !same(u, sorted(t)) {
		tb.Fatalf("Sort(%s) = %s, not %s", paths(t), paths(u), paths(sorted(t)))
	}
	at, err := tree.Find(t, path)
	wantAt, want := 0, api.ErrNone
	beneath := []api.Item{}
	for place, it := range slices.Backward(t) {
		if it.Path == path {
			wantAt, want = place, api.OK
		}
		if isBeneath(path, it.Path) {
			beneath = slices.Insert(beneath, 0, it)
		}
	}
	if at != wantAt || err != want {
		tb.Fatalf("Find(%s, %q) = %d, %v, not %d, %v", paths(t), path, at, err, wantAt, want)
	}
	if u := tree.Beneath(t, path); !same(u, beneath) {
		tb.Fatalf("Beneath(%s, %q) = %s, not %s", paths(t), path, paths(u), paths(beneath))
	}
}

// holdWith holds With against the model, and against P11.11.
func holdWith(tb testing.TB, t []api.Item, it api.Item) {
	tb.Helper()
	u, err := tree.With(t, it)
	want, wantErr := with(t, it)
	if err != wantErr || !same(u, want) {
		tb.Fatalf("With(%+v, %+v) = %+v, %v, not %+v, %v", t, it, u, err, want, wantErr)
	}
	if err != api.OK {
		if len(u) != 0 {
			tb.Fatalf("With answers %+v beside %v", u, err)
		}
		return
	}
	at, found := tree.Find(u, it.Path)
	if !isTree(u) || found != api.OK || !same(u[at:at+1], []api.Item{it}) {
		tb.Fatalf("With(%+v, %+v) = %+v: no tree with the item", t, it, u)
	}
	others := func(x api.Item) bool { return x.Path == it.Path }
	if !same(slices.DeleteFunc(slices.Clone(t), others), slices.DeleteFunc(slices.Clone(u), others)) {
		tb.Fatalf("With(%+v, %+v) = %+v: other items changed", t, it, u)
	}
	if _, before := tree.Find(t, it.Path); before == api.OK {
		return
	}
	if back, err := tree.Without(u, it.Path); err != api.OK || !same(back, t) {
		tb.Fatalf("Without(%+v, %q) = %+v, %v, not what it was", u, it.Path, back, err)
	}
}

// holdWithout holds Without against the model, and against P11.11.
func holdWithout(tb testing.TB, t []api.Item, path string) {
	tb.Helper()
	u, err := tree.Without(t, path)
	want, wantErr := without(t, path)
	if err != wantErr || !same(u, want) {
		tb.Fatalf("Without(%+v, %q) = %+v, %v, not %+v, %v", t, path, u, err, want, wantErr)
	}
	if err != api.OK {
		if len(u) != 0 {
			tb.Fatalf("Without answers %+v beside %v", u, err)
		}
		return
	}
	if _, found := tree.Find(u, path); !isTree(u) || found != api.ErrNone || len(tree.Beneath(u, path)) != 0 {
		tb.Fatalf("Without(%+v, %q) = %+v: no tree, or not without it", t, path, u)
	}
}

// holdReal holds Real against the model, and against P11.12.
func holdReal(tb testing.TB, t []api.Item, path string) {
	tb.Helper()
	to, err := tree.Real(t, path)
	want, wantErr := followed(t, path)
	if to != want || err != wantErr {
		tb.Fatalf("Real(%+v, %q) = %q, %v, not %q, %v", t, path, to, err, want, wantErr)
	}
	if err != api.OK {
		return
	}
	if to != "" && !isThere(t, to, isFile) && !isThere(t, to, isFolder) {
		tb.Fatalf("Real(%+v, %q) = %q: no file and no folder", t, path, to)
	}
	if again, err := tree.Real(t, to); again != to || err != api.OK {
		tb.Fatalf("Real(%+v, %q) = %q, %v, not itself", t, to, again, err)
	}
}

// hold holds all calls against the model.
func hold(tb testing.TB, t []api.Item, it api.Item, path string) {
	tb.Helper()
	holdCheck(tb, t)
	for _, p := range []string{path, it.Path} {
		holdLists(tb, t, p)
		holdWithout(tb, t, p)
		holdReal(tb, t, p)
	}
	holdWith(tb, t, it)
}

// The texts of which items are made by dice: few, so that they come together often; and some that no path has.
var (
	names    = []string{"a", "b", "c", "a-b", "a0", "..a", "\xff"}
	strange  = []string{"", "/", "a/", "/a", "a//b", ".", "..", "a/../b", "a\x00", strings.Repeat("p", 121), strings.Repeat("a/", 200) + "a"}
	leads    = []string{"a", "b", "..", ".", "../a", "../b", "../..", "a/b", "./a//b", "c/a", "../../c", "b/../a"}
	numbers  = []int{0, 1, 420, 4095, 4096, -1, maxTime, maxTime + 1, math.MinInt, math.MaxInt}
	noKinds  = []api.Kind{0, 5, 255}
	allKinds = []api.Kind{isFile, isFolder, isHard, isSoft}
)

func pick[T any](dice *rand.Rand, from []T) T { return from[dice.IntN(len(from))] }

// anyPath has one to three parts.
func anyPath(dice *rand.Rand) string {
	p := pick(dice, names)
	for range dice.IntN(3) {
		p += "/" + pick(dice, names)
	}
	return p
}

// anyItem may be, mostly: links may lead away.
func anyItem(dice *rand.Rand, path string) api.Item {
	switch pick(dice, allKinds) {
	case isFile:
		return api.Item{Path: path, Kind: isFile, Mode: dice.IntN(4096), Time: dice.IntN(99), Body: make([]byte, dice.IntN(5))}
	case isFolder:
		return api.Item{Path: path, Kind: isFolder, Mode: dice.IntN(4096), Time: maxTime - dice.IntN(99)}
	case isHard:
		return hard(path, anyPath(dice))
	}
	return soft(path, pick(dice, leads))
}

// grown is a tree of up to so many items, by the model alone.
func grown(dice *rand.Rand, most int) []api.Item {
	t := []api.Item{}
	for range most {
		path := pick(dice, names)
		if len(t) > 0 && dice.IntN(3) > 0 {
			path = pick(dice, t).Path + "/" + path
		}
		it := anyItem(dice, path)
		if it.Kind == isHard && dice.IntN(2) == 0 {
			it.To = pick(dice, append(t, it)).Path
		}
		if _, found := tree.Find(t, path); found == api.OK {
			continue
		}
		if u, err := with(t, it); err == api.OK {
			t = u
		}
	}
	return t
}

// spoiled has one thing changed somewhere.
func spoiled(dice *rand.Rand, t []api.Item) []api.Item {
	if len(t) == 0 {
		return t
	}
	u := twin(t)
	at := dice.IntN(len(u))
	it := &u[at]
	switch dice.IntN(9) {
	case 0:
		it.Path = pick(dice, strange)
	case 1:
		it.Path = anyPath(dice)
	case 2:
		it.Kind = pick(dice, append(noKinds, allKinds...))
	case 3:
		it.Mode = pick(dice, numbers)
	case 4:
		it.Time = pick(dice, numbers)
	case 5:
		it.Body = make([]byte, pick(dice, []int{0, 1, 65536, 65537}))
	case 6:
		it.To = pick(dice, append(strange, leads...))
	case 7:
		other := dice.IntN(len(u))
		u[at], u[other] = u[other], u[at]
	case 8:
		u = slices.Delete(u, at, at+1)
	}
	return u
}

func TestExamples(t *testing.T) {
	x := small()
	for _, c := range []struct {
		t  []api.Item
		at int
		e  api.Errno
	}{
		{x, 0, api.OK},
		{x[1:], 0, api.ErrParent},
		{[]api.Item{x[1], x[0]}, 0, api.ErrParent},
		{[]api.Item{x[0], x[0]}, 1, api.ErrSorted},
	} {
		if at, e := tree.Check(c.t); at != c.at || e != c.e {
			t.Errorf("Check(%s) = %d, %v, not %d, %v", paths(c.t), at, e, c.at, c.e)
		}
	}
	if e := tree.May(soft("l", "../x")); e != api.ErrAway {
		t.Errorf("May of a soft link l to ../x = %v", e)
	}
	if e := tree.May(api.Item{Path: "a", Kind: isFolder, To: "b"}); e != api.ErrItem {
		t.Errorf("May of a folder with a To = %v", e)
	}
	if at, e := tree.Find(x, "a/h"); at != 2 || e != api.OK {
		t.Errorf("Find a/h = %d, %v", at, e)
	}
	if at, e := tree.Find(x, "h"); at != 0 || e != api.ErrNone {
		t.Errorf("Find h = %d, %v", at, e)
	}
	if u := tree.Beneath(x, "a"); !same(u, x[1:4]) {
		t.Errorf("Beneath a = %s", paths(u))
	}
	if u, e := tree.With(x, file("a")); u != nil || e != api.ErrParent {
		t.Errorf("With file a = %s, %v", paths(u), e)
	}
	if u, e := tree.With(x, file("b")); !same(u, []api.Item{x[0], x[1], x[2], x[3], file("b"), x[4]}) || e != api.OK {
		t.Errorf("With file b = %s, %v", paths(u), e)
	}
	if u, e := tree.Without(x, "a/f"); u != nil || e != api.ErrHard {
		t.Errorf("Without a/f = %s, %v", paths(u), e)
	}
	if u, e := tree.Without(x, "a"); !same(u, x[4:]) || e != api.OK {
		t.Errorf("Without a = %s, %v", paths(u), e)
	}
	if u, e := tree.Without(x, "a/h"); !same(u, []api.Item{x[0], x[1], x[3], x[4]}) || e != api.OK {
		t.Errorf("Without a/h = %s, %v", paths(u), e)
	}
	for _, c := range []struct {
		path, to string
		e        api.Errno
	}{{"l/s", "a/f", api.OK}, {"a/h", "a/f", api.OK}, {"l", "a", api.OK}, {"", "", api.OK}, {"a/f/x", "", api.ErrNone}, {"x", "", api.ErrNone}} {
		if to, e := tree.Real(x, c.path); to != c.to || e != c.e {
			t.Errorf("Real(%q) = %q, %v, not %q, %v", c.path, to, e, c.to, c.e)
		}
	}
	if to, e := tree.Real([]api.Item{soft("l", "l")}, "l"); to != "" || e != api.ErrLoop {
		t.Errorf("Real of l to l = %q, %v", to, e)
	}
}

// The fourth example of the whole.
func TestWholeExample(t *testing.T) {
	x := []api.Item{folder("a"), file("a/f", 1), hard("a/h", "a/f"), soft("l", "a")}
	if to, e := tree.Real(x, "l/h"); to != "a/f" || e != api.OK {
		t.Errorf("Real(l/h) = %q, %v", to, e)
	}
}

func TestMay(t *testing.T) {
	long := strings.Repeat("p", 120)
	deep := long + "/" + long + "/" + long + "/" + strings.Repeat("q", 37)
	for _, c := range []struct {
		it api.Item
		e  api.Errno
	}{
		{api.Item{Path: "a", Kind: 1}, api.OK},
		{api.Item{Path: deep, Kind: 1, Mode: 4095, Time: maxTime, Body: make([]byte, 65536)}, api.OK},
		{api.Item{Path: deep + "q", Kind: 1}, api.ErrLong},
		{api.Item{Path: long + "p", Kind: 2}, api.ErrLong},
		{api.Item{Kind: 1}, api.ErrEmpty},
		{api.Item{Path: "a/", Kind: 1}, api.ErrEmpty},
		{api.Item{Path: "a/..", Kind: 1}, api.ErrDots},
		{api.Item{Path: "a\x00", Kind: 1}, api.ErrNul},
		{api.Item{Path: "a"}, api.ErrArg},
		{api.Item{Path: "a", Kind: 5}, api.ErrArg},
		{api.Item{Path: "a", Kind: 255}, api.ErrArg},
		{api.Item{Path: "a", Kind: 1, Mode: 4096}, api.ErrArg},
		{api.Item{Path: "a", Kind: 1, Mode: -1}, api.ErrArg},
		{api.Item{Path: "a", Kind: 1, Time: maxTime + 1}, api.ErrArg},
		{api.Item{Path: "a", Kind: 1, Time: -1}, api.ErrArg},
		{api.Item{Path: "a", Kind: 1, Body: make([]byte, 65537)}, api.ErrLong},
		{api.Item{Path: "a", Kind: 1, To: "b"}, api.ErrItem},
		{api.Item{Path: "a", Kind: 2, Mode: 4095, Time: maxTime, Body: []byte{}}, api.OK},
		{api.Item{Path: "a", Kind: 2, Mode: 4096}, api.ErrArg},
		{api.Item{Path: "a", Kind: 2, Time: maxTime + 1}, api.ErrArg},
		{api.Item{Path: "a", Kind: 2, Body: []byte{0}}, api.ErrItem},
		{api.Item{Path: "a", Kind: 2, To: "b"}, api.ErrItem},
		{api.Item{Path: "a", Kind: 3, To: deep, Body: []byte{}}, api.OK},
		{api.Item{Path: "a", Kind: 3, To: deep + "q"}, api.ErrLong},
		{api.Item{Path: "a", Kind: 3, To: "a"}, api.OK},
		{api.Item{Path: "a", Kind: 3, To: "b", Mode: 1}, api.ErrArg},
		{api.Item{Path: "a", Kind: 3, To: "b", Time: 1}, api.ErrArg},
		{api.Item{Path: "a", Kind: 3, To: "b", Body: []byte{0}}, api.ErrItem},
		{api.Item{Path: "a", Kind: 3}, api.ErrEmpty},
		{api.Item{Path: "a", Kind: 3, To: "../b"}, api.ErrDots},
		{api.Item{Path: "a", Kind: 3, To: "b\x00"}, api.ErrNul},
		{api.Item{Path: "a", Kind: 4, To: "b", Time: maxTime, Body: []byte{}}, api.OK},
		{api.Item{Path: "a", Kind: 4, To: "./b/", Time: maxTime}, api.OK},
		{api.Item{Path: "a/b", Kind: 4, To: ".."}, api.OK},
		{api.Item{Path: "a", Kind: 4, To: strings.Repeat("b", 400)}, api.OK},
		{api.Item{Path: "a", Kind: 4, To: strings.Repeat("b", 401)}, api.ErrLong},
		{api.Item{Path: "a", Kind: 4, To: "b", Time: maxTime + 1}, api.ErrArg},
		{api.Item{Path: "a", Kind: 4, To: "b", Mode: 1}, api.ErrArg},
		{api.Item{Path: "a", Kind: 4, To: "b", Body: []byte{0}}, api.ErrItem},
		{api.Item{Path: "a", Kind: 4}, api.ErrEmpty},
		{api.Item{Path: "a", Kind: 4, To: "b\x00"}, api.ErrNul},
		{api.Item{Path: "a", Kind: 4, To: "/b"}, api.ErrAway},
		{api.Item{Path: "a", Kind: 4, To: ".."}, api.ErrAway},
		{api.Item{Path: "a/b", Kind: 4, To: "../../c"}, api.ErrAway},
	} {
		if e := tree.May(c.it); e != c.e {
			t.Errorf("May(%.200s) = %v, not %v", fmt.Sprintf("%+v", c.it), e, c.e)
		}
	}
}

// Each field as it may be, and each way that it may not: whatever comes together, the first error of the chapter is answered.
func TestMayOrder(t *testing.T) {
	bodies := [][]byte{nil, {}, {1}, make([]byte, 65536), make([]byte, 65537)}
	texts := []string{"", "b", "../b", "/b", "b\x00", "b/", ".", strings.Repeat("b", 121), strings.Repeat("b/", 200) + "b"}
	for _, path := range []string{"a", "a/b", "", "a//b", "..", "a\x00", strings.Repeat("a", 121)} {
		for _, kind := range slices.Concat(allKinds, noKinds) {
			for _, mode := range numbers {
				for _, time := range numbers {
					for _, body := range bodies {
						for _, to := range texts {
							it := api.Item{Path: path, Kind: kind, Mode: mode, Time: time, Body: body, To: to}
							if e := tree.May(it); e != wrong(it) {
								t.Fatalf("May of %q %d %d %d, %d bytes, %q = %v, not %v", path, kind, mode, time, len(body), to, e, wrong(it))
							}
						}
					}
				}
			}
		}
	}
}

func TestCheck(t *testing.T) {
	bad := api.Item{Path: "a", Kind: isFile, Mode: -1}
	for _, c := range []struct {
		what string
		t    []api.Item
		at   int
		e    api.Errno
	}{
		{"nothing", nil, 0, api.OK},
		{"wide", wide(), 0, api.OK},
		{"what may not be", []api.Item{folder("a"), {Path: "b", Kind: 9}}, 1, api.ErrArg},
		{"by bytes alone", []api.Item{folder("a"), file("a-b"), file("a/b")}, 2, api.ErrSorted},
		{"piece by piece", []api.Item{folder("a"), file("a/b"), file("a-b")}, 0, api.OK},
		{"twice", []api.Item{file("a"), file("b"), folder("b")}, 2, api.ErrSorted},
		{"in a file", []api.Item{file("a"), file("a/b")}, 1, api.ErrParent},
		{"in a hard link", []api.Item{file("a"), hard("b", "a"), file("b/c")}, 2, api.ErrParent},
		{"in a soft link", []api.Item{folder("a"), soft("b", "a"), file("b/c")}, 2, api.ErrParent},
		{"in nothing", []api.Item{folder("a"), file("a/b/c")}, 1, api.ErrParent},
		{"to a folder", []api.Item{folder("a"), hard("b", "a")}, 1, api.ErrHard},
		{"to a hard link", []api.Item{file("a"), hard("b", "a"), hard("c", "b")}, 2, api.ErrHard},
		{"to a soft link", []api.Item{file("a"), soft("b", "a"), hard("c", "b")}, 2, api.ErrHard},
		{"to a file behind", []api.Item{hard("a", "b"), file("b")}, 0, api.ErrHard},
		{"to itself", []api.Item{hard("a", "a")}, 0, api.ErrHard},
		{"to nothing", []api.Item{file("a"), hard("b", "c")}, 1, api.ErrHard},
		{"to a file in a folder", []api.Item{folder("a"), file("a/b"), hard("c", "a/b")}, 0, api.OK},
		{"softly to nothing", []api.Item{soft("a", "x/y/z")}, 0, api.OK},
		{"not to be, ahead of sorted", []api.Item{folder("b"), bad}, 1, api.ErrArg},
		{"sorted, ahead of a folder", []api.Item{folder("b"), file("a/b")}, 1, api.ErrSorted},
		{"a folder, ahead of a hard link", []api.Item{file("a"), hard("b/c", "x")}, 1, api.ErrParent},
		{"item by item", []api.Item{folder("a"), hard("b", "x"), bad}, 1, api.ErrHard},
	} {
		if at, e := tree.Check(c.t); at != c.at || e != c.e {
			t.Errorf("Check of %s = %d, %v, not %d, %v", c.what, at, e, c.at, c.e)
		}
		holdCheck(t, c.t)
	}
}

// many are so many files in the root.
func many(n int) []api.Item {
	t := make([]api.Item, n)
	for at := range t {
		t[at] = file(fmt.Sprintf("f%07d", at), byte(at))
	}
	return t
}

func TestCheckFull(t *testing.T) {
	if at, e := tree.Check(many(256)); at != 0 || e != api.OK {
		t.Errorf("Check of 256 = %d, %v", at, e)
	}
	for _, n := range []int{257, 258, 1000} {
		if at, e := tree.Check(many(n)); at != 256 || e != api.ErrFull {
			t.Errorf("Check of %d = %d, %v", n, at, e)
		}
		if at, e := tree.Check(make([]api.Item, n)); at != 256 || e != api.ErrFull {
			t.Errorf("Check of %d that may not be = %d, %v", n, at, e)
		}
	}
}

func TestSame(t *testing.T) {
	x := wide()
	if !tree.Same(x, twin(x)) || !tree.Same(nil, []api.Item{}) || !tree.Same([]api.Item{{Body: []byte{}}}, []api.Item{{}}) {
		t.Error("Same of the same: false")
	}
	for at := range x {
		for what, change := range []func(*api.Item){
			func(it *api.Item) { it.Path += "x" },
			func(it *api.Item) { it.Kind++ },
			func(it *api.Item) { it.Mode++ },
			func(it *api.Item) { it.Time-- },
			func(it *api.Item) { it.To += "x" },
			func(it *api.Item) { it.Body = append(it.Body, 0) },
			func(it *api.Item) { it.Path, it.To = it.To, it.Path },
		} {
			y := twin(x)
			change(&y[at])
			if tree.Same(x, y) || tree.Same(y, x) {
				t.Errorf("Same with change %d of item %d: true", what, at)
			}
		}
		if len(x[at].Body) > 0 {
			y := twin(x)
			y[at].Body[len(y[at].Body)-1] ^= 128
			if tree.Same(x, y) {
				t.Errorf("Same with another last byte of item %d: true", at)
			}
		}
	}
	for n := range x {
		if tree.Same(x, x[:n]) || tree.Same(x[:n], x) || tree.Same(x, x[len(x)-n:]) {
			t.Errorf("Same of %d and %d items: true", len(x), n)
		}
	}
	if y := twin(x); tree.Same(x, append(y[1:], y[0])) {
		t.Error("Same of another order: true")
	}
}

func TestSort(t *testing.T) {
	mixed := []api.Item{
		file("b", 1), {Path: "a\x00", Kind: 77}, file("a-b"), folder("b"), {Path: ""}, file("a/b"), {Path: "/"}, folder("a"), file("b", 2), {Path: "a/"}, file(".."),
	}
	want := []api.Item{
		{Path: ""}, {Path: "/"}, file(".."), folder("a"), {Path: "a/"}, file("a/b"), {Path: "a\x00", Kind: 77}, file("a-b"), file("b", 1), folder("b"), file("b", 2),
	}
	if u := tree.Sort(mixed); !same(u, want) {
		t.Errorf("Sort = %q", paths(u))
	}
	if u := tree.Sort(nil); len(u) != 0 {
		t.Errorf("Sort of nothing = %v", u)
	}
	dice := newDice()
	for range 300 {
		x := grown(dice, 20)
		y := slices.Clone(x)
		dice.Shuffle(len(y), func(i, j int) { y[i], y[j] = y[j], y[i] })
		if u := tree.Sort(y); !same(u, x) {
			t.Fatalf("Sort(%s) = %s, not the tree %s", paths(y), paths(u), paths(x))
		}
	}
}

// Items of one Path stay in their order, in lists long enough that they are put in order by more than one way.
func TestSortStays(t *testing.T) {
	dice := newDice()
	for _, n := range []int{2, 11, 12, 13, 20, 21, 40, 100, 1000} {
		x := make([]api.Item, n)
		for at := range x {
			x[at] = api.Item{Path: pick(dice, names), Mode: at}
		}
		u := tree.Sort(x)
		for at := 1; at < n; at++ {
			if o := order(u[at-1].Path, u[at].Path); o > 0 || o == 0 && u[at-1].Mode >= u[at].Mode {
				t.Fatalf("Sort of %d: %+v ahead of %+v", n, u[at-1], u[at])
			}
		}
		if !same(u, sorted(x)) {
			t.Fatalf("Sort of %d: not the same items", n)
		}
	}
}

func TestFind(t *testing.T) {
	x := []api.Item{file("b"), {Path: "a/"}, folder("b"), {Path: ""}, file("a"), {Path: ""}, hard("b", "a")}
	for _, c := range []struct {
		path string
		at   int
		e    api.Errno
	}{{"b", 0, api.OK}, {"a/", 1, api.OK}, {"", 3, api.OK}, {"a", 4, api.OK}, {"c", 0, api.ErrNone}, {"/a", 0, api.ErrNone}, {"B", 0, api.ErrNone}} {
		if at, e := tree.Find(x, c.path); at != c.at || e != c.e {
			t.Errorf("Find(%q) = %d, %v, not %d, %v", c.path, at, e, c.at, c.e)
		}
	}
	if at, e := tree.Find(nil, ""); at != 0 || e != api.ErrNone {
		t.Errorf("Find in nothing = %d, %v", at, e)
	}
}

func TestBeneath(t *testing.T) {
	x := []api.Item{file("b/c/d"), {Path: "b//e"}, {Path: "bc"}, {Path: "b"}, file("a"), {Path: "b/c", Kind: 99, Mode: -1, Body: []byte{1}}, {Path: ""}, file("b/c/d"), {Path: "b/.."}}
	for _, c := range []struct {
		root string
		want []int
	}{
		{"", []int{0, 2, 3, 4, 5, 7}},
		{"b", []int{0, 5, 7}},
		{"b/c", []int{0, 7}},
		{"b/c/d", nil},
		{"b/", nil},
		{"/", nil},
		{"x", nil},
		{"..", nil},
	} {
		want := []api.Item{}
		for _, at := range c.want {
			want = append(want, x[at])
		}
		if u := tree.Beneath(x, c.root); !same(u, want) {
			t.Errorf("Beneath(%q) = %q", c.root, paths(u))
		}
	}
}

func TestWith(t *testing.T) {
	x := wide()
	for _, c := range []struct {
		what string
		t    []api.Item
		it   api.Item
		e    api.Errno
	}{
		{"first of all", nil, file("a"), api.OK},
		{"at the beginning", x, file("0"), api.OK},
		{"at the end", x, file("zz"), api.OK},
		{"behind a folder's last", x, file("a/zz"), api.OK},
		{"in the place of a file", x, file("a/f", 7, 7, 7), api.OK},
		{"a folder in the place of a file", x, folder("g"), api.OK},
		{"a folder in the place of a file with a link", x, folder("a/f"), api.ErrHard},
		{"a folder anew", x, api.Item{Path: "a", Kind: isFolder, Mode: 1, Time: 2}, api.OK},
		{"a file in the place of a folder with items", x, file("a/b"), api.ErrParent},
		{"a file in the place of an empty folder", x, file("e"), api.OK},
		{"a soft link in the place of a folder with items", x, soft("d", "a"), api.ErrParent},
		{"a hard link to a file behind", x, hard("b", "g"), api.ErrHard},
		{"a hard link to a file ahead", x, hard("h", "g"), api.OK},
		{"a hard link to itself in a file's place", x, hard("g", "g"), api.ErrHard},
		{"in a folder that is none", x, file("x/y"), api.ErrParent},
		{"in a file", x, file("g/y"), api.ErrParent},
		{"without a Path", x, api.Item{Kind: isFile}, api.ErrEmpty},
		{"dots", x, file("a/.."), api.ErrDots},
		{"no kind", x, api.Item{Path: "a"}, api.ErrArg},
		{"a Mode that may not be", x, api.Item{Path: "q", Kind: isFile, Mode: 4096}, api.ErrArg},
		{"a link that leads away", x, soft("q", ".."), api.ErrAway},
		{"a list that is no tree", x[1:], file("q"), api.ErrParent},
		{"a list that is none, ahead of an item that may not be", []api.Item{file("b"), file("a")}, api.Item{}, api.ErrSorted},
		{"an item that would mend the list", x[1:], folder("a"), api.ErrParent},
		{"too many", many(257), file("f0000000"), api.ErrFull},
		{"one too many", many(256), file("g"), api.ErrFull},
		{"one too many, ahead of an item that may not be", many(256), api.Item{}, api.ErrFull},
		{"as many as may be", many(255), file("g"), api.OK},
		{"in the place of one of as many as may be", many(256), file("f0000000", 9), api.OK},
	} {
		if _, e := tree.With(c.t, c.it); e != c.e {
			t.Errorf("With %s: %v, not %v", c.what, e, c.e)
		}
		holdWith(t, c.t, c.it)
	}
}

func TestWithout(t *testing.T) {
	x := wide()
	for _, c := range []struct {
		what string
		t    []api.Item
		path string
		e    api.Errno
	}{
		{"of nothing", nil, "a", api.ErrNone},
		{"the root", x, "", api.ErrNone},
		{"a path that is none", x, "a/", api.ErrNone},
		{"what is not there", x, "a/b/x", api.ErrNone},
		{"a file", x, "g", api.OK},
		{"a file with a link", x, "a/f", api.ErrHard},
		{"a folder with a file that has a link within", x, "a/b", api.ErrHard},
		{"a folder with a file that has a link behind", x, "a", api.ErrHard},
		{"a folder whose links stay", x, "d", api.OK},
		{"an empty folder", x, "e", api.OK},
		{"a hard link", x, "z", api.OK},
		{"a soft link", x, "d/l", api.OK},
		{"a folder with a file and its link", []api.Item{folder("a"), file("a/f"), hard("a/h", "a/f"), file("a-f"), file("ab")}, "a", api.OK},
		{"the only item", []api.Item{file("a")}, "a", api.OK},
		{"a list that is no tree", x[1:], "x", api.ErrParent},
		{"an item that is its fault", []api.Item{file("b"), file("a")}, "a", api.ErrSorted},
		{"too many", many(257), "f0000000", api.ErrFull},
		{"as many as may be", many(256), "f0000000", api.OK},
	} {
		if _, e := tree.Without(c.t, c.path); e != c.e {
			t.Errorf("Without %s: %v, not %v", c.what, e, c.e)
		}
		holdWithout(t, c.t, c.path)
	}
	if u, e := tree.Without(x, "d"); e != api.OK || !same(u, slices.Concat(x[:8], x[10:])) {
		t.Errorf("Without d = %s, %v", paths(u), e)
	}
}

func TestReal(t *testing.T) {
	x := wide()
	for _, c := range []struct {
		path, to string
		e        api.Errno
	}{
		{"", "", api.OK},
		{"a", "a", api.OK},
		{"a/b", "a/b", api.OK},
		{"a/b/c", "a/b/c", api.OK},
		{"a/h", "a/b/c", api.OK},
		{"z", "a/f", api.OK},
		{"a/h/x", "", api.ErrNone},
		{"a/f/x", "", api.ErrNone},
		{"a/f/f/f", "", api.ErrNone},
		{"a/b/up", "", api.OK},
		{"a/b/up/g", "g", api.OK},
		{"a/b/up/a/b/up/a/b", "a/b", api.OK},
		{"a/b/up/x", "", api.ErrNone},
		{"d/l", "a", api.OK},
		{"d/l/t", "g", api.OK},
		{"d/l/b/up/d/l/h", "a/b/c", api.OK},
		{"d/l/t/x", "", api.ErrNone},
		{"l", "", api.ErrNone},
		{"b", "", api.ErrNone},
		{"e/x", "", api.ErrNone},
		{"/", "", api.ErrEmpty},
		{"a/", "", api.ErrEmpty},
		{"/a", "", api.ErrEmpty},
		{"a/../g", "", api.ErrDots},
		{"./a", "", api.ErrDots},
		{"a\x00", "", api.ErrNul},
		{strings.Repeat("a", 121), "", api.ErrLong},
		{strings.Repeat("a/", 200) + "a", "", api.ErrLong},
		{strings.Repeat("a/", 199) + "a", "", api.ErrNone},
	} {
		if to, e := tree.Real(x, c.path); to != c.to || e != c.e {
			t.Errorf("Real(%.40q) = %q, %v, not %q, %v", c.path, to, e, c.to, c.e)
		}
		holdReal(t, x, c.path)
	}
}

// The list's error stands ahead of the path's, and of the root's answer.
func TestRealOrder(t *testing.T) {
	for _, path := range []string{"", "a/b", "a/", ".."} {
		if to, e := tree.Real(small()[1:], path); to != "" || e != api.ErrParent {
			t.Errorf("Real(%q) of no tree = %q, %v", path, to, e)
		}
		if to, e := tree.Real(many(257), path); to != "" || e != api.ErrFull {
			t.Errorf("Real(%q) of too many = %q, %v", path, to, e)
		}
	}
}

// chain are so many soft links, each to the next, the last one to the file z.
func chain(n int) []api.Item {
	t := []api.Item{}
	for at := range n {
		to := fmt.Sprintf("l%03d", at+1)
		if at == n-1 {
			to = "z"
		}
		t = append(t, soft(fmt.Sprintf("l%03d", at), to))
	}
	return append(t, file("z"))
}

func TestRealHops(t *testing.T) {
	if to, e := tree.Real(chain(40), "l000"); to != "z" || e != api.OK {
		t.Errorf("Real over 40 links = %q, %v", to, e)
	}
	if to, e := tree.Real(chain(41), "l000"); to != "" || e != api.ErrLoop {
		t.Errorf("Real over 41 links = %q, %v", to, e)
	}
	if to, e := tree.Real(chain(41), "l001"); to != "z" || e != api.OK {
		t.Errorf("Real over 40 of 41 links = %q, %v", to, e)
	}
	if to, e := tree.Real(chain(200), "l000"); to != "" || e != api.ErrLoop {
		t.Errorf("Real over 200 links = %q, %v", to, e)
	}
	if to, e := tree.Real(chain(40)[:40], "l000"); to != "" || e != api.ErrNone {
		t.Errorf("Real over 40 links to nothing = %q, %v", to, e)
	}
	if to, e := tree.Real(chain(41)[:41], "l000"); to != "" || e != api.ErrLoop {
		t.Errorf("Real over 41 links to nothing = %q, %v", to, e)
	}
	x := []api.Item{file("f"), soft("l", ".")}
	for n := range 60 {
		for _, last := range []string{"", "/f", "/x", "/f/x"} {
			path := strings.TrimPrefix(strings.Repeat("/l", n)+last, "/")
			want, e := "", api.OK
			switch {
			case n > 40:
				e = api.ErrLoop
			case last == "/f":
				want = "f"
			case last != "":
				e = api.ErrNone
			}
			if to, err := tree.Real(x, path); to != want || err != e {
				t.Errorf("Real over %d links and %q = %q, %v, not %q, %v", n, last, to, err, want, e)
			}
		}
	}
	if to, e := tree.Real(x, "x"+strings.Repeat("/l", 60)); to != "" || e != api.ErrNone {
		t.Errorf("Real of nothing ahead of 60 links = %q, %v", to, e)
	}
}

// Links that lead to themselves, to one another, and to more and more.
func TestRealLoops(t *testing.T) {
	for _, c := range []struct {
		t    []api.Item
		path string
		e    api.Errno
	}{
		{[]api.Item{soft("l", "l")}, "l/x", api.ErrLoop},
		{[]api.Item{soft("l", "l/x")}, "l", api.ErrLoop},
		{[]api.Item{soft("l", strings.Repeat("l/", 199)+"l")}, strings.Repeat("l/", 199) + "l", api.ErrLoop},
		{[]api.Item{soft("l", "m"), soft("m", "l")}, "m", api.ErrLoop},
		{[]api.Item{folder("a"), soft("a/l", "../a/l")}, "a/l", api.ErrLoop},
		{[]api.Item{soft("l", "x/../l")}, "l", api.ErrLoop},
		{[]api.Item{soft("l", "x/l")}, "l", api.ErrNone},
		{[]api.Item{folder("a"), soft("a/l", ".")}, "a" + strings.Repeat("/l", 40), api.OK},
		{[]api.Item{folder("a"), soft("a/l", ".")}, "a" + strings.Repeat("/l", 41), api.ErrLoop},
	} {
		if _, e := tree.Real(c.t, c.path); e != c.e {
			t.Errorf("Real(%v, %.40q) = %v, not %v", c.t, c.path, e, c.e)
		}
		holdReal(t, c.t, c.path)
	}
}

// A link may lead to a text of more than 400 bytes, or with a part that is too long, where nothing can be.
func TestRealFar(t *testing.T) {
	x := []api.Item{}
	path := ""
	for range 3 {
		path = strings.TrimPrefix(path+"/"+strings.Repeat("p", 119), "/")
		x = append(x, folder(path))
	}
	x = append(x, soft(path+"/l", strings.Repeat("q", 400)), soft(path+"/m", strings.Repeat("../", 3)+"z"), folder("z"))
	for _, c := range []struct {
		path, to string
		e        api.Errno
	}{{path + "/l", "", api.ErrNone}, {path + "/m", "z", api.OK}, {path, path, api.OK}} {
		if to, e := tree.Real(x, c.path); to != c.to || e != c.e {
			t.Errorf("Real of %d bytes = %q, %v, not %q, %v", len(c.path), to, e, c.to, c.e)
		}
	}
}

// P11.10: beginnings, what is beneath a folder, and items in any order.
func TestBeginnings(t *testing.T) {
	dice := newDice()
	for range 300 {
		x := grown(dice, 40)
		for n := range len(x) + 1 {
			if at, e := tree.Check(x[:n]); at != 0 || e != api.OK {
				t.Fatalf("Check of %d items of %s = %d, %v", n, paths(x), at, e)
			}
		}
		for at, it := range x {
			u := tree.Beneath(x, it.Path)
			if !same(u, x[at+1:at+1+len(u)]) {
				t.Fatalf("Beneath(%s, %q) = %s: not right behind it", paths(x), it.Path, paths(u))
			}
		}
		if u := tree.Sort(x); !same(u, x) {
			t.Fatalf("Sort(%s) = %s", paths(x), paths(u))
		}
	}
}

// P11.12: without soft links a file and a folder lead to themselves, and a hard link to its file.
func TestRealItself(t *testing.T) {
	dice := newDice()
	for range 300 {
		x := slices.DeleteFunc(grown(dice, 40), func(it api.Item) bool { return it.Kind == isSoft })
		for _, it := range x {
			want := it.Path
			if it.Kind == isHard {
				want = it.To
			}
			if to, e := tree.Real(x, it.Path); to != want || e != api.OK {
				t.Fatalf("Real(%s, %q) = %q, %v", paths(x), it.Path, to, e)
			}
		}
	}
}

// Trees, and lists that are nearly trees, by dice.
func TestDice(t *testing.T) {
	dice := newDice()
	seen := map[api.Errno]int{}
	for range 4000 {
		x := grown(dice, dice.IntN(40))
		path := anyPath(dice)
		if len(x) > 0 && dice.IntN(2) == 0 {
			path = pick(dice, x).Path
		}
		it := anyItem(dice, path)
		hold(t, x, it, anyPath(dice))
		y := spoiled(dice, x)
		hold(t, y, it, pick(dice, strange))
		_, e := fault(y)
		seen[e]++
		_, e = with(x, it)
		seen[e]++
		for _, z := range x {
			holdReal(t, x, z.Path)
			holdReal(t, x, z.Path+"/"+pick(dice, names))
			_, e := followed(x, z.Path)
			seen[e]++
		}
	}
	for _, e := range []api.Errno{api.OK, api.ErrArg, api.ErrLong, api.ErrNone, api.ErrEmpty, api.ErrDots, api.ErrNul, api.ErrAway, api.ErrItem, api.ErrSorted, api.ErrParent, api.ErrHard, api.ErrLoop} {
		if seen[e] == 0 {
			t.Errorf("the dice never came to %v", e)
		}
	}
}

// All lists of up to three items out of a few.
func TestAllSmallLists(t *testing.T) {
	few := []api.Item{folder("a"), file("a", 1), soft("a", "b"), file("a/b", 2), hard("a/b", "a"), soft("a/b", ".."), file("a-b"), folder("b"), hard("b", "a"), hard("b", "a/b"), soft("b", "a/b"), {Path: "b"}}
	lists := [][]api.Item{{}}
	for begin := 0; len(lists[begin]) < 3; begin++ {
		for _, it := range few {
			lists = append(lists, append(slices.Clone(lists[begin]), it))
		}
	}
	for _, x := range lists {
		for _, it := range few {
			hold(t, x, it, "b/a")
		}
	}
}

// walled has each of its lists amid others, with room behind its end that says so.
func walled(t []api.Item) []api.Item {
	wall := api.Item{Path: "wall", Kind: 9, Mode: 1, Body: []byte("wall")}
	u := []api.Item{wall}
	for _, it := range t {
		it.Body = slices.Concat([]byte("wall"), it.Body, []byte("wall"))[4 : 4+len(it.Body)]
		u = append(u, it)
	}
	return append(u, wall, wall)[1 : 1+len(t)]
}

// whole is a list with the room behind its end, and its Bodies likewise.
func whole(t []api.Item) []api.Item {
	u := slices.Clone(t[:cap(t)])
	for at := range u {
		u[at].Body = bytes.Clone(u[at].Body[:cap(u[at].Body)])
	}
	return u
}

// scrawl writes all over a list and its Bodies, and the room behind their ends.
func scrawl(t []api.Item) {
	t = t[:cap(t)]
	for at := range t {
		body := t[at].Body[:cap(t[at].Body)]
		for place := range body {
			body[place] = 0xA5
		}
		t[at] = api.Item{Path: "scrawl", To: "scrawl"}
	}
}

// calls are those that answer lists.
func calls(it api.Item, path string) map[string]func([]api.Item) []api.Item {
	return map[string]func([]api.Item) []api.Item{
		"Sort":    tree.Sort,
		"Beneath": func(t []api.Item) []api.Item { return tree.Beneath(t, path) },
		"With": func(t []api.Item) []api.Item {
			u, _ := tree.With(t, it)
			return u
		},
		"Without": func(t []api.Item) []api.Item {
			u, _ := tree.Without(t, path)
			return u
		},
	}
}

// P11.13: arguments stay as they were, with the room behind their ends; answers are the caller's own.
func TestMemory(t *testing.T) {
	for _, start := range [][]api.Item{nil, small(), wide(), wide()[1:]} {
		for _, path := range []string{"", "a", "a/h", "d", "g", "q"} {
			x := walled(start)
			it := walled([]api.Item{file("q", 5, 6, 7)})
			before, itBefore := whole(x), whole(it)
			for what, call := range calls(it[0], path) {
				u := call(x)
				answer := twin(u)
				if !same(whole(x), before) || !same(whole(it), itBefore) {
					t.Fatalf("%s with %q changed what it was handed", what, path)
				}
				scrawl(u)
				if !same(whole(x), before) || !same(whole(it), itBefore) {
					t.Fatalf("%s with %q answers memory that it was handed", what, path)
				}
				if again := call(x); !same(again, answer) {
					t.Fatalf("%s with %q = %v, once %v", what, path, again, answer)
				}
				u = call(x)
				scrawl(x)
				scrawl(it)
				if !same(u, answer) {
					t.Fatalf("%s with %q keeps what it was handed", what, path)
				}
				copy(x[:cap(x)], walled(start)[:cap(x)])
				copy(it[:cap(it)], walled([]api.Item{file("q", 5, 6, 7)})[:cap(it)])
			}
			for _, quiet := range []func(){
				func() { tree.Check(x) },
				func() { tree.Same(x, it) },
				func() { tree.Find(x, path) },
				func() { tree.Real(x, path) },
				func() { tree.May(it[0]) },
			} {
				quiet()
				if !same(whole(x), before) || !same(whole(it), itBefore) {
					t.Fatalf("a call with %q changed what it was handed", path)
				}
			}
		}
	}
}

// Bodies that lie in one another, or side by side with room behind their ends, come out each its own.
func TestBodiesTheirOwn(t *testing.T) {
	one := []byte{1, 2, 3, 4, 5, 6}
	x := []api.Item{folder("a"), file("a/f"), file("a/g"), file("a/h"), file("b")}
	x[1].Body, x[2].Body, x[3].Body, x[4].Body = one[:2], one[2:4], one, one[:0]
	it := file("a/i")
	it.Body = one[1:3]
	for what, call := range calls(it, "a") {
		u := call(x)
		answer := twin(u)
		for at := range u {
			if kept := u[at].Body[:cap(u[at].Body)]; len(kept) > 0 {
				for place := range kept {
					kept[place] = byte(100 + at)
				}
			}
			u[at].Body = append(u[at].Body, byte(100+at))
		}
		for at := range u {
			if len(u[at].Body) != len(answer[at].Body)+1 || len(bytes.Trim(u[at].Body, string([]byte{byte(100 + at)}))) != 0 {
				t.Errorf("%s: item %d shares its Body with another: %v", what, at, u[at].Body)
			}
		}
		if !bytes.Equal(one, []byte{1, 2, 3, 4, 5, 6}) {
			t.Fatalf("%s: a Body lies in the arguments", what)
		}
	}
}

// R1: great lists and texts, and numbers without end, are answered as others are.
func TestGreat(t *testing.T) {
	text := strings.Repeat("a/", 1<<22)
	lists := [][]api.Item{
		{{Path: text, Kind: isFile}},
		{{Path: "a", Kind: isHard, To: text}},
		{{Path: "a", Kind: isSoft, To: text}},
		{{Path: "a", Kind: isFile, Body: make([]byte, 1<<24)}},
		{{Path: "a", Kind: isFolder, Mode: math.MinInt, Time: math.MaxInt}},
	}
	for at, x := range lists {
		holdCheck(t, x)
		holdWith(t, small(), x[0])
		if u := tree.Sort(x); !tree.Same(u, x) {
			t.Errorf("Sort of list %d: another one", at)
		}
	}
	holdWithout(t, small(), text)
	holdReal(t, small(), text)
	x := many(50000)
	slices.Reverse(x)
	if u := tree.Sort(x); !tree.Same(u, many(50000)) {
		t.Error("Sort of 50000: not in order")
	}
	if at, e := tree.Find(x, "f0000000"); at != 49999 || e != api.OK {
		t.Errorf("Find in 50000 = %d, %v", at, e)
	}
	if u := tree.Beneath(x, ""); !tree.Same(u, x) {
		t.Error("Beneath the root of 50000: not all")
	}
}

// As deep as a path may be: each floor a folder of one byte.
func TestDeep(t *testing.T) {
	x := []api.Item{}
	path := "a"
	for len(path) < 400 {
		x = append(x, folder(path))
		path += "/a"
	}
	if len(x) != 200 {
		t.Fatalf("%d floors", len(x))
	}
	holdCheck(t, x)
	last := x[199].Path
	hold(t, x, file(last, 1), last)
	hold(t, x, file(path), "a")
	hold(t, x, soft(last[:397]+"/b", strings.Repeat("../", 133)), last[:397]+"/b")
}

// madeOf reads items out of bytes: some of few texts, some of the bytes themselves.
func madeOf(data []byte) []api.Item {
	t := []api.Item{}
	take := func() byte {
		if len(data) == 0 {
			return 0
		}
		c := data[0]
		data = data[1:]
		return c
	}
	text := func(from []string) string {
		n := int(take())
		if n < 200 {
			return from[n%len(from)]
		}
		n = min(n-200, len(data))
		s := string(data[:n])
		data = data[n:]
		return s
	}
	for len(data) > 0 && len(t) < 300 {
		it := api.Item{Kind: api.Kind(take() % 6)}
		it.Path = text(names)
		for range take() % 4 {
			it.Path += "/" + text(names)
		}
		it.Mode = numbers[int(take())%len(numbers)]
		it.Time = numbers[int(take())%len(numbers)]
		it.Body = bytes.Repeat([]byte{7}, int(take())%3)
		it.To = text(append(leads, ""))
		t = append(t, it)
	}
	return t
}

func FuzzAll(f *testing.F) {
	f.Add([]byte{}, "")
	f.Add([]byte{2, 0, 0, 0, 0, 0, 12, 1, 0, 1, 1, 0, 0, 2, 12, 3, 0, 1, 2, 0, 0, 0, 7}, "a/c")
	f.Add([]byte{2, 0, 0, 1, 1, 0, 12, 4, 0, 1, 1, 0, 1, 0, 2, 4, 1, 0, 0, 0, 0, 0}, "b/b")
	f.Add([]byte{4, 201, 'x', 0, 0, 0, 0, 203, '.', '.', 0}, "x")
	f.Add(bytes.Repeat([]byte{1, 0, 0, 0, 0, 0, 12}, 260), "a")
	f.Fuzz(func(t *testing.T, data []byte, path string) {
		x := madeOf(data)
		for _, u := range [][]api.Item{x, tree.Sort(x)} {
			it := api.Item{Path: path, Kind: isFile}
			if len(u) > 0 {
				it = u[len(u)/2]
			}
			hold(t, u, it, path)
		}
		grow := []api.Item{}
		for _, it := range x {
			holdWith(t, grow, it)
			if u, err := tree.With(grow, it); err == api.OK {
				grow = u
			}
		}
		hold(t, grow, api.Item{Path: path, Kind: isFolder}, path)
		for _, it := range grow {
			holdReal(t, grow, it.Path)
			holdWithout(t, grow, it.Path)
		}
	})
}
