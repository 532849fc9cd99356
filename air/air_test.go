package air_test

import (
	"bytes"
	"fmt"
	"math"
	"math/rand/v2"
	"slices"
	"testing"

	"tabulary/air"
	"tabulary/api"
)

// The numbers of the chapter, told here over again.
const (
	ok      = api.Errno(0)
	errArg  = api.Errno(1)
	errLong = api.Errno(2)
	errFull = api.Errno(3)
	errNil  = api.Errno(8)

	mostParties = 64
	mostUnder   = 4096
	mostBytes   = 1 << 18

	room = 50 // behind the end of a list, in tests
)

func newDice() *rand.Rand { return rand.New(rand.NewPCG(19, 20)) }

func pick[T any](dice *rand.Rand, from []T) T { return from[dice.IntN(len(from))] }

// gram is a datagram with a text as its body.
func gram(from, to int, body string) api.Datagram {
	return api.Datagram{From: from, To: to, Body: []byte(body)}
}

func same(a, b api.Datagram) bool {
	return a.From == b.From && a.To == b.To && bytes.Equal(a.Body, b.Body)
}

func newAir(tb testing.TB, n int) *air.Air {
	tb.Helper()
	a, err := air.New(n)
	if err != ok || a == nil {
		tb.Fatalf("New(%d): %v, %v", n, a, err)
	}
	return a
}

func wantErr(tb testing.TB, what string, got, want api.Errno) {
	tb.Helper()
	if got != want {
		tb.Fatalf("%s: %v, want %v", what, got, want)
	}
}

func wantBool(tb testing.TB, what string, got, want bool) {
	tb.Helper()
	if got != want {
		tb.Fatalf("%s: %v, want %v", what, got, want)
	}
}

// wantTold holds what At or Carry answered against a datagram.
func wantTold(tb testing.TB, what string, got api.Datagram, is bool, want api.Datagram) {
	tb.Helper()
	if !is || !same(got, want) {
		tb.Fatalf("%s: %v, %v, want %v", what, got, is, want)
	}
}

// wantNothing holds what At or Carry answered against zero and false.
func wantNothing(tb testing.TB, what string, got api.Datagram, is bool) {
	tb.Helper()
	if is || got.From != 0 || got.To != 0 || len(got.Body) != 0 {
		tb.Fatalf("%s: %v, %v, want zero and false", what, got, is)
	}
}

func wantNone(tb testing.TB, a *air.Air, i int) {
	tb.Helper()
	d, is := a.At(i)
	wantNothing(tb, fmt.Sprintf("At(%d)", i), d, is)
}

func wantCarry(tb testing.TB, a *air.Air, i int, want api.Datagram) {
	tb.Helper()
	d, is := a.Carry(i)
	wantTold(tb, fmt.Sprintf("Carry(%d)", i), d, is, want)
}

func wantNoCarry(tb testing.TB, a *air.Air, i int) {
	tb.Helper()
	d, is := a.Carry(i)
	wantNothing(tb, fmt.Sprintf("Carry(%d)", i), d, is)
}

func send(tb testing.TB, a *air.Air, d api.Datagram) {
	tb.Helper()
	wantErr(tb, fmt.Sprintf("Send from %d to %d", d.From, d.To), a.Send(d), ok)
}

// wantUnder holds all that is under way against what should be.
func wantUnder(tb testing.TB, a *air.Air, want ...api.Datagram) {
	tb.Helper()
	if got := a.Count(); got != len(want) {
		tb.Fatalf("Count %d, want %d", got, len(want))
	}
	for i, w := range want {
		d, is := a.At(i)
		wantTold(tb, fmt.Sprintf("At(%d)", i), d, is, w)
	}
	for _, i := range []int{-1, len(want)} {
		wantNone(tb, a, i)
	}
}

// wantTexts does so where all goes from 0 to 1.
func wantTexts(tb testing.TB, a *air.Air, texts ...string) {
	tb.Helper()
	var want []api.Datagram
	for _, s := range texts {
		want = append(want, gram(0, 1, s))
	}
	wantUnder(tb, a, want...)
}

// texts is an air of three parties with these under way from 0 to 1.
func texts(tb testing.TB, under ...string) *air.Air {
	tb.Helper()
	a := newAir(tb, 3)
	for _, s := range under {
		send(tb, a, gram(0, 1, s))
	}
	wantTexts(tb, a, under...)
	return a
}

// full is an air with as many under way as can be, each with its number as its body.
func full(tb testing.TB) *air.Air {
	tb.Helper()
	a := newAir(tb, 3)
	for i := range mostUnder {
		send(tb, a, gram(0, 1, fmt.Sprint(i)))
	}
	return a
}

// greatNumbers are those at which sums wrap round, and others far off.
func greatNumbers() []int {
	return []int{math.MinInt, math.MinInt + 1, -1 << 32, -1 << 31, -mostUnder, -mostParties, -2, -1, mostUnder, mostUnder + 1, 1 << 31, 1 << 32, 1<<32 + 1, 1 << 62, math.MaxInt - 1, math.MaxInt}
}

// The chapter's examples, line by line.

func TestExampleOfAnOrder(t *testing.T) {
	a := newAir(t, 3)
	send(t, a, gram(0, 1, "a"))
	send(t, a, gram(0, 1, "b"))
	wantBool(t, "Double(0)", a.Double(0), true)
	wantBool(t, "Hold(1)", a.Hold(1), true)
	wantCarry(t, a, 0, gram(0, 1, "a"))
	wantCarry(t, a, 0, gram(0, 1, "a"))
	wantCarry(t, a, 0, gram(0, 1, "b"))
	wantUnder(t, a)
}

func TestExampleOfAWay(t *testing.T) {
	a := newAir(t, 3)
	wantErr(t, "Cut(0, 1, true)", a.Cut(0, 1, true), ok)
	send(t, a, gram(0, 1, "c"))
	if got := a.Count(); got != 0 {
		t.Errorf("Count %d, want 0", got)
	}
	wantBool(t, "Is(0, 1)", a.Is(0, 1), true)
	wantBool(t, "Is(1, 0)", a.Is(1, 0), false)
}

func TestExampleOfWrongNumbers(t *testing.T) {
	a := newAir(t, 3)
	wantErr(t, "Send from 3", a.Send(gram(3, 0, "a")), errArg)
	wantNoCarry(t, a, 0)
	wantBool(t, "Lose(-1)", a.Lose(-1), false)
	wantErr(t, "Cut(0, 3, true)", a.Cut(0, 3, true), errArg)
}

// P19.1

func TestNew(t *testing.T) {
	for n := 1; n <= mostParties; n++ {
		a := newAir(t, n)
		wantUnder(t, a)
		for from := range n {
			for to := range n {
				wantBool(t, fmt.Sprintf("%d parties: Is(%d, %d)", n, from, to), a.Is(from, to), false)
			}
		}
		send(t, a, gram(n-1, 0, "there"))
		send(t, a, gram(0, n-1, "and back"))
		wantErr(t, "Send from one past the last", a.Send(gram(n, 0, "")), errArg)
		wantErr(t, "Send to one past the last", a.Send(gram(0, n, "")), errArg)
		wantUnder(t, a, gram(n-1, 0, "there"), gram(0, n-1, "and back"))
	}
}

func TestNewRefused(t *testing.T) {
	for _, n := range append(greatNumbers(), 0, mostParties+1, mostParties+2, 1<<8, 1<<8+1, 1<<16+1) {
		want := errArg
		if n > mostParties {
			want = errLong
		}
		if a, err := air.New(n); a != nil || err != want {
			t.Errorf("New(%d): %v, %v, want nil, %v", n, a, err, want)
		}
	}
}

// P19.2

func TestSend(t *testing.T) {
	a := newAir(t, 3)
	var want []api.Datagram
	for from := range 3 {
		for to := range 3 {
			for _, body := range []string{"", "x", "\x00", "\xff\x00\xff", fmt.Sprint(from, to)} {
				d := gram(from, to, body)
				send(t, a, d)
				want = append(want, d)
				wantUnder(t, a, want...)
			}
		}
	}
}

func TestSendNoParty(t *testing.T) {
	for _, n := range []int{1, 3, mostParties} {
		a := newAir(t, n)
		for _, p := range append(greatNumbers(), n, n+1, 1<<8, 1<<16) {
			wantErr(t, fmt.Sprint("Send from ", p), a.Send(gram(p, 0, "x")), errArg)
			wantErr(t, fmt.Sprint("Send to ", p), a.Send(gram(0, p, "x")), errArg)
			wantErr(t, fmt.Sprint("Send from and to ", p), a.Send(gram(p, p, "x")), errArg)
		}
		wantUnder(t, a)
	}
}

func TestSendLong(t *testing.T) {
	a := newAir(t, 2)
	whole := api.Datagram{From: 1, Body: bytes.Repeat([]byte("datagram"), mostBytes/8)}
	send(t, a, whole)
	wantUnder(t, a, whole)
	for _, more := range []int{1, 2, mostBytes} {
		wantErr(t, fmt.Sprint(more, " bytes more"), a.Send(api.Datagram{From: 1, Body: make([]byte, mostBytes+more)}), errLong)
	}
	wantUnder(t, a, whole)
	wantCarry(t, a, 0, whole)
}

func TestSendOverACutWay(t *testing.T) {
	a := texts(t, "a")
	wantErr(t, "Cut", a.Cut(0, 1, true), ok)
	send(t, a, gram(0, 1, "b"))
	wantTexts(t, a, "a")
	for _, d := range []api.Datagram{gram(1, 0, "c"), gram(0, 2, "d"), gram(2, 1, "e"), gram(0, 0, "f"), gram(1, 1, "g")} {
		send(t, a, d)
	}
	wantUnder(t, a, gram(0, 1, "a"), gram(1, 0, "c"), gram(0, 2, "d"), gram(2, 1, "e"), gram(0, 0, "f"), gram(1, 1, "g"))
}

func TestSendFull(t *testing.T) {
	a := newAir(t, 3)
	for i := range mostUnder {
		send(t, a, gram(0, 1, fmt.Sprint(i)))
		if got := a.Count(); got != i+1 {
			t.Fatalf("Count %d, want %d", got, i+1)
		}
	}
	wantErr(t, "Send one more", a.Send(gram(0, 1, "more")), errFull)
	if got := a.Count(); got != mostUnder {
		t.Fatalf("Count %d behind one that was refused", got)
	}
	wantBool(t, "Lose", a.Lose(7), true)
	send(t, a, gram(0, 1, "more"))
	wantErr(t, "Send one more again", a.Send(gram(0, 1, "too many")), errFull)
	d, is := a.At(mostUnder - 1)
	wantTold(t, "the last one", d, is, gram(0, 1, "more"))
	for i := range mostUnder - 1 {
		n := i
		if i >= 7 {
			n++
		}
		wantCarry(t, a, 0, gram(0, 1, fmt.Sprint(n)))
	}
	wantTexts(t, a, "more")
}

func TestSendErrorsInOrder(t *testing.T) {
	long := make([]byte, mostBytes+1)
	var none *air.Air
	wantErr(t, "of none", none.Send(api.Datagram{From: -1, To: 9, Body: long}), errNil)

	a := full(t)
	wantErr(t, "Cut", a.Cut(0, 2, true), ok)
	for _, c := range []struct {
		what     string
		from, to int
		body     []byte
		want     api.Errno
	}{
		{"no party, long, full", 3, 0, long, errArg},
		{"to no party, long, full", 0, -1, long, errArg},
		{"long, full, a whole way", 0, 1, long, errLong},
		{"long, full, a cut way", 0, 2, long, errLong},
		{"full, a cut way", 0, 2, nil, ok},
		{"full, a cut way, the most bytes", 0, 2, long[1:], ok},
		{"full, a whole way", 0, 1, nil, errFull},
		{"full, a whole way back", 2, 0, nil, errFull},
	} {
		wantErr(t, c.what, a.Send(api.Datagram{From: c.from, To: c.to, Body: c.body}), c.want)
		if got := a.Count(); got != mostUnder {
			t.Fatalf("%s: Count %d", c.what, got)
		}
	}
	wantErr(t, "long, not full, a cut way", func() api.Errno {
		b := newAir(t, 3)
		b.Cut(0, 2, true)
		return b.Send(api.Datagram{To: 2, Body: long})
	}(), errLong)
}

// P19.3

func TestNoSuchDatagram(t *testing.T) {
	for _, under := range [][]string{nil, {"a"}, {"a", "b", "c"}} {
		a := texts(t, under...)
		for _, i := range append(greatNumbers(), len(under), len(under)+1, len(under)+2) {
			what := fmt.Sprintf("of %d the datagram %d", len(under), i)
			wantNone(t, a, i)
			wantNoCarry(t, a, i)
			wantBool(t, "Lose "+what, a.Lose(i), false)
			wantBool(t, "Double "+what, a.Double(i), false)
			wantBool(t, "Hold "+what, a.Hold(i), false)
		}
		wantTexts(t, a, under...)
	}
}

// What was under way once is not there any more, whatever room it left.
func TestNoneBehindTheEnd(t *testing.T) {
	a := texts(t, "a", "b", "c", "d")
	wantCarry(t, a, 1, gram(0, 1, "b"))
	wantBool(t, "Lose(2)", a.Lose(2), true)
	wantTexts(t, a, "a", "c")
	for i := 2; i < 5; i++ {
		wantNone(t, a, i)
		wantNoCarry(t, a, i)
		wantBool(t, "Lose", a.Lose(i), false)
		wantBool(t, "Hold", a.Hold(i), false)
		wantBool(t, "Double", a.Double(i), false)
	}
	wantTexts(t, a, "a", "c")
}

// To be told of changes nothing.
func TestAtChangesNothing(t *testing.T) {
	a := texts(t, "a", "b", "c")
	for range 3 {
		for i, s := range []string{"a", "b", "c"} {
			d, is := a.At(i)
			wantTold(t, "At", d, is, gram(0, 1, s))
		}
	}
	wantTexts(t, a, "a", "b", "c")
}

// P19.4

func TestEachPlace(t *testing.T) {
	all := []string{"a", "b", "c", "d", "e"}
	for count := 1; count <= len(all); count++ {
		for i := range count {
			under := all[:count:count]
			without := slices.Delete(slices.Clone(under), i, i+1)
			its := gram(0, 1, under[i])

			a := texts(t, under...)
			wantCarry(t, a, i, its)
			wantTexts(t, a, without...)

			a = texts(t, under...)
			wantBool(t, "Lose", a.Lose(i), true)
			wantTexts(t, a, without...)

			a = texts(t, under...)
			wantBool(t, "Double", a.Double(i), true)
			wantTexts(t, a, append(under, under[i])...)

			a = texts(t, under...)
			wantBool(t, "Hold", a.Hold(i), true)
			wantTexts(t, a, append(without, under[i])...)
		}
	}
}

// All of a datagram goes along, whatever is done to it.
func TestFromAndToGoAlong(t *testing.T) {
	a := newAir(t, mostParties)
	var want []api.Datagram
	for p := range mostParties {
		d := gram(p, mostParties-1-p, fmt.Sprint("from ", p))
		send(t, a, d)
		want = append(want, d)
	}
	for p := range mostParties {
		wantBool(t, "Double", a.Double(2*p), true)
		wantBool(t, "Hold", a.Hold(p), true)
		want = append(want, want[2*p])
		d := want[p]
		want = append(slices.Delete(want, p, p+1), d)
	}
	wantUnder(t, a, want...)
	for _, w := range want {
		wantCarry(t, a, 0, w)
	}
	wantUnder(t, a)
}

func TestDoubleFull(t *testing.T) {
	a := texts(t, "a", "b")
	for i := 2; i < mostUnder; i++ {
		wantBool(t, "Double", a.Double(i%2), true)
	}
	if got := a.Count(); got != mostUnder {
		t.Fatalf("Count %d", got)
	}
	for _, i := range []int{0, 1, mostUnder - 1, mostUnder, -1} {
		wantBool(t, fmt.Sprintf("Double(%d) of as many as can be", i), a.Double(i), false)
	}
	if got := a.Count(); got != mostUnder {
		t.Fatalf("Count %d behind what was refused", got)
	}
	for i := range mostUnder {
		d, is := a.At(i)
		wantTold(t, "At", d, is, gram(0, 1, string("ab"[i%2])))
	}
	wantBool(t, "Hold of as many as can be", a.Hold(0), true)
	wantCarry(t, a, mostUnder-1, gram(0, 1, "a"))
	wantBool(t, "Double where there is room again", a.Double(0), true)
	wantBool(t, "Double where there is none again", a.Double(0), false)
	wantErr(t, "Send where there is none", a.Send(gram(0, 1, "c")), errFull)
}

// One that was doubled is as any other: doubled again, held up, lost by itself.
func TestDoublesApart(t *testing.T) {
	a := texts(t, "a", "b")
	wantBool(t, "Double(0)", a.Double(0), true)
	wantBool(t, "Double(2)", a.Double(2), true)
	wantTexts(t, a, "a", "b", "a", "a")
	wantBool(t, "Lose(0)", a.Lose(0), true)
	wantTexts(t, a, "b", "a", "a")
	wantCarry(t, a, 1, gram(0, 1, "a"))
	wantTexts(t, a, "b", "a")
	wantBool(t, "Hold(0)", a.Hold(0), true)
	wantBool(t, "Double(1)", a.Double(1), true)
	wantTexts(t, a, "a", "b", "b")
}

// The room that is left by what was carried is there again, however often.
func TestManyTimes(t *testing.T) {
	a := newAir(t, 2)
	for i := range 3 * mostUnder {
		send(t, a, gram(0, 1, fmt.Sprint(i)))
		if i >= 10 {
			wantCarry(t, a, 0, gram(0, 1, fmt.Sprint(i-10)))
		}
	}
	if got := a.Count(); got != 10 {
		t.Fatalf("Count %d, want 10", got)
	}
}

// P19.5

func TestCutEachWay(t *testing.T) {
	const n = 4
	a := newAir(t, n)
	for cut := range n * n {
		wantErr(t, "Cut", a.Cut(cut/n, cut%n, true), ok)
		for w := range n * n {
			wantBool(t, fmt.Sprintf("Is(%d, %d) behind Cut(%d, %d)", w/n, w%n, cut/n, cut%n), a.Is(w/n, w%n), w <= cut)
		}
	}
	for w := range n * n {
		send(t, a, gram(w/n, w%n, "lost"))
	}
	wantUnder(t, a)
	for healed := range n * n {
		wantErr(t, "Cut", a.Cut(healed/n, healed%n, false), ok)
		for w := range n * n {
			wantBool(t, fmt.Sprintf("Is(%d, %d) behind the way from %d to %d healed", w/n, w%n, healed/n, healed%n), a.Is(w/n, w%n), w > healed)
		}
		send(t, a, gram(healed/n, healed%n, "told"))
		d, is := a.At(healed)
		wantTold(t, "over a way that is healed", d, is, gram(healed/n, healed%n, "told"))
	}
}

// To cut what is cut, or to heal what is whole, leaves it so: they are not counted.
func TestCutTwice(t *testing.T) {
	a := newAir(t, 2)
	for range 3 {
		wantErr(t, "heal", a.Cut(0, 1, false), ok)
		wantBool(t, "Is", a.Is(0, 1), false)
	}
	for range 3 {
		wantErr(t, "cut", a.Cut(0, 1, true), ok)
		wantBool(t, "Is", a.Is(0, 1), true)
	}
	wantErr(t, "heal", a.Cut(0, 1, false), ok)
	wantBool(t, "Is", a.Is(0, 1), false)
	send(t, a, gram(0, 1, "a"))
	wantTexts(t, a, "a")
}

// What is under way stays so where its way is cut, and is doubled and carried there.
func TestCutLeavesWhatIsUnderWay(t *testing.T) {
	a := texts(t, "a", "b", "c")
	wantErr(t, "cut", a.Cut(0, 1, true), ok)
	wantTexts(t, a, "a", "b", "c")
	wantBool(t, "Double", a.Double(0), true)
	wantBool(t, "Hold", a.Hold(1), true)
	wantBool(t, "Lose", a.Lose(1), true)
	wantTexts(t, a, "a", "a", "b")
	wantCarry(t, a, 2, gram(0, 1, "b"))
	send(t, a, gram(0, 1, "d"))
	wantTexts(t, a, "a", "a")
	wantErr(t, "heal", a.Cut(0, 1, false), ok)
	wantTexts(t, a, "a", "a")
	send(t, a, gram(0, 1, "e"))
	wantTexts(t, a, "a", "a", "e")
}

func TestCutNoParty(t *testing.T) {
	for _, n := range []int{1, 3, mostParties} {
		a := newAir(t, n)
		for _, off := range []bool{true, false} {
			for _, p := range append(greatNumbers(), n, n+1, 1<<8, 1<<16) {
				for _, w := range [][2]int{{p, 0}, {0, p}, {p, p}} {
					what := fmt.Sprintf("Cut(%d, %d, %v)", w[0], w[1], off)
					wantErr(t, what, a.Cut(w[0], w[1], off), errArg)
					wantBool(t, "Is behind "+what, a.Is(w[0], w[1]), false)
				}
			}
		}
		for from := range n {
			for to := range n {
				wantBool(t, "Is of a way behind what was refused", a.Is(from, to), false)
			}
		}
	}
}

// A way that may not be healed stays cut, and the other way round.
func TestCutRefusedChangesNothing(t *testing.T) {
	a := newAir(t, 2)
	wantErr(t, "cut", a.Cut(1, 0, true), ok)
	wantErr(t, "heal", a.Cut(1, 2, false), errArg)
	wantErr(t, "heal", a.Cut(-1, 0, false), errArg)
	wantBool(t, "Is", a.Is(1, 0), true)
	wantBool(t, "Is", a.Is(0, 1), false)
}

func TestIsOfNoWay(t *testing.T) {
	a := newAir(t, 2)
	for w := range 4 {
		wantErr(t, "cut", a.Cut(w/2, w%2, true), ok)
	}
	for _, p := range append(greatNumbers(), 2, 3) {
		wantBool(t, fmt.Sprintf("Is(%d, 0)", p), a.Is(p, 0), false)
		wantBool(t, fmt.Sprintf("Is(0, %d)", p), a.Is(0, p), false)
		wantBool(t, fmt.Sprintf("Is(%d, %d)", p, p), a.Is(p, p), false)
	}
}

// The greatest air has all its ways cut, and healed.
func TestAllWaysOfTheGreatest(t *testing.T) {
	a := newAir(t, mostParties)
	for _, off := range []bool{true, false} {
		for w := range mostParties * mostParties {
			wantErr(t, "Cut", a.Cut(w/mostParties, w%mostParties, off), ok)
		}
		for w := range mostParties * mostParties {
			wantBool(t, "Is", a.Is(w/mostParties, w%mostParties), off)
			send(t, a, gram(w/mostParties, w%mostParties, fmt.Sprint(w)))
		}
	}
	if got := a.Count(); got != mostUnder {
		t.Fatalf("Count %d, want %d", got, mostUnder)
	}
	for w := range mostParties * mostParties {
		wantCarry(t, a, 0, gram(w/mostParties, w%mostParties, fmt.Sprint(w)))
	}
}

func TestNil(t *testing.T) {
	var a *air.Air
	for _, i := range append(greatNumbers(), 0, 1) {
		wantErr(t, "Send", a.Send(gram(i, 0, "a")), errNil)
		wantErr(t, "Send", a.Send(gram(0, i, "a")), errNil)
		wantNone(t, a, i)
		wantNoCarry(t, a, i)
		wantBool(t, "Lose", a.Lose(i), false)
		wantBool(t, "Double", a.Double(i), false)
		wantBool(t, "Hold", a.Hold(i), false)
		for _, off := range []bool{true, false} {
			wantErr(t, "Cut", a.Cut(i, 0, off), errNil)
			wantErr(t, "Cut", a.Cut(0, i, off), errNil)
		}
		wantBool(t, "Is", a.Is(i, 0), false)
		wantBool(t, "Is", a.Is(0, i), false)
	}
	if got := a.Count(); got != 0 {
		t.Errorf("Count %d", got)
	}
}

// The chapter told over again: what is under way is a list that is made anew by each call, and each cut way stands in another.

type model struct {
	n     int
	under []api.Datagram
	cut   [][2]int
}

func (m *model) party(p int) bool { return 0 <= p && p < m.n }

func (m *model) is(from, to int) bool { return slices.Contains(m.cut, [2]int{from, to}) }

func (m *model) send(d api.Datagram) api.Errno {
	if !m.party(d.From) || !m.party(d.To) {
		return errArg
	}
	if len(d.Body) > mostBytes {
		return errLong
	}
	if m.is(d.From, d.To) {
		return ok
	}
	if len(m.under) == mostUnder {
		return errFull
	}
	m.under = append(m.under, api.Datagram{From: d.From, To: d.To, Body: bytes.Clone(d.Body)})
	return ok
}

func (m *model) at(i int) (api.Datagram, bool) {
	if i < 0 || i >= len(m.under) {
		return api.Datagram{}, false
	}
	return m.under[i], true
}

func (m *model) carry(i int) (api.Datagram, bool) {
	its, is := m.at(i)
	var left []api.Datagram
	for j, d := range m.under {
		if j != i {
			left = append(left, d)
		}
	}
	m.under = left
	return its, is
}

func (m *model) double(i int) bool {
	its, is := m.at(i)
	if !is || len(m.under) == mostUnder {
		return false
	}
	m.under = append(m.under, its)
	return true
}

func (m *model) hold(i int) bool {
	its, is := m.carry(i)
	if is {
		m.under = append(m.under, its)
	}
	return is
}

func (m *model) cutOff(from, to int, off bool) api.Errno {
	if !m.party(from) || !m.party(to) {
		return errArg
	}
	m.cut = slices.DeleteFunc(m.cut, func(w [2]int) bool { return w == [2]int{from, to} })
	if off {
		m.cut = append(m.cut, [2]int{from, to})
	}
	return ok
}

// step is a call: its number, its places and its body.
type step struct {
	call, a, b int
	body       string
}

const calls = 7 // send, carry, lose, double, hold, cut, heal

// take does one step to both, and holds the answers against one another.
func take(tb testing.TB, a *air.Air, m *model, s step) {
	tb.Helper()
	what := fmt.Sprint(s)
	switch s.call {
	case 0:
		wantErr(tb, "Send "+what, a.Send(gram(s.a, s.b, s.body)), m.send(gram(s.a, s.b, s.body)))
	case 1:
		d, is := a.Carry(s.a)
		want, there := m.carry(s.a)
		if there {
			wantTold(tb, "Carry "+what, d, is, want)
		} else {
			wantNothing(tb, "Carry "+what, d, is)
		}
	case 2:
		_, there := m.carry(s.a)
		wantBool(tb, "Lose "+what, a.Lose(s.a), there)
	case 3:
		wantBool(tb, "Double "+what, a.Double(s.a), m.double(s.a))
	case 4:
		wantBool(tb, "Hold "+what, a.Hold(s.a), m.hold(s.a))
	default:
		wantErr(tb, "Cut "+what, a.Cut(s.a, s.b, s.call == 5), m.cutOff(s.a, s.b, s.call == 5))
	}
}

// wantAs holds all that an air tells against the chapter told over again.
func wantAs(tb testing.TB, a *air.Air, m *model) {
	tb.Helper()
	wantUnder(tb, a, m.under...)
	for from := -1; from <= m.n; from++ {
		for to := -1; to <= m.n; to++ {
			wantBool(tb, fmt.Sprintf("Is(%d, %d)", from, to), a.Is(from, to), m.is(from, to))
		}
	}
}

// All runs of five of these steps.
func TestAllShortRuns(t *testing.T) {
	steps := []step{{call: 0, a: 0, b: 1, body: "a"}, {call: 0, a: 1, b: 0, body: "b"}, {call: 0, a: 2, b: 1}, {call: 1, a: 0}, {call: 1, a: 1}, {call: 2, a: 1}, {call: 3, a: 0}, {call: 4, a: 0}, {call: 4, a: 1}, {call: 5, a: 0, b: 1}, {call: 6, a: 0, b: 1}}
	const long = 5
	runs := 1
	for range long {
		runs *= len(steps)
	}
	for run := range runs {
		a, m := newAir(t, 2), &model{n: 2}
		for r, left := run, long; left > 0; left-- {
			take(t, a, m, steps[r%len(steps)])
			r /= len(steps)
		}
		wantAs(t, a, m)
	}
}

// anyStep is one of which most can be done.
func anyStep(dice *rand.Rand, m *model) step {
	s := step{call: dice.IntN(calls)}
	if dice.IntN(3) == 0 {
		s.call = 0
	}
	s.a, s.b = dice.IntN(m.n+2)-1, dice.IntN(m.n+2)-1
	if 1 <= s.call && s.call <= 4 {
		s.a = dice.IntN(len(m.under)+2) - 1
	}
	if dice.IntN(40) == 0 {
		s.a = pick(dice, greatNumbers())
	}
	s.body = fmt.Sprint(dice.IntN(1000))[:dice.IntN(2)]
	if dice.IntN(2) == 0 {
		s.body = fmt.Sprint(dice.IntN(1 << 30))
	}
	return s
}

func TestAnySteps(t *testing.T) {
	dice := newDice()
	for range 400 {
		n := 1 + dice.IntN(6)
		a, m := newAir(t, n), &model{n: n}
		for range dice.IntN(200) {
			take(t, a, m, anyStep(dice, m))
			if dice.IntN(10) == 0 {
				wantAs(t, a, m)
			}
		}
		wantAs(t, a, m)
	}
}

// Many steps where there is room for few more.
func TestAnyStepsNearlyFull(t *testing.T) {
	dice := newDice()
	a, m := newAir(t, 3), &model{n: 3}
	refused := 0
	for range 12000 {
		s := anyStep(dice, m)
		if s.call > 4 && dice.IntN(10) > 0 {
			s.call = 3
			s.a = dice.IntN(len(m.under) + 1)
		}
		if (s.call == 1 || s.call == 2) && len(m.under) < mostUnder-3 && dice.IntN(20) > 0 {
			s.call = 3
		}
		if s.call == 3 && len(m.under) == mostUnder {
			refused++
		}
		take(t, a, m, s)
	}
	wantAs(t, a, m)
	if refused < 100 {
		t.Errorf("only %d where there was no room", refused)
	}
}

// P19.6: each datagram that was sent has a number as its body, so that it is counted how often it was sent or doubled, and how often it came out or stays.
func TestNothingIsMadeUp(t *testing.T) {
	dice := newDice()
	for range 100 {
		n := 2 + dice.IntN(3)
		a := newAir(t, n)
		put, out, sent := map[string]int{}, map[string]int{}, map[string]api.Datagram{}
		note := func(d api.Datagram, is bool) {
			if is {
				out[string(d.Body)]++
				if w, was := sent[string(d.Body)]; !was || !same(d, w) {
					t.Fatalf("%v was never sent, but %v", d, w)
				}
			}
		}
		for number := range 300 {
			i := dice.IntN(a.Count()+2) - 1
			d, is := a.At(i)
			switch dice.IntN(8) {
			case 0:
				note(a.Carry(i))
			case 1:
				if a.Lose(i) {
					note(d, is)
				}
			case 2:
				if a.Double(i) {
					put[string(d.Body)]++
				}
			case 3:
				a.Hold(i)
			case 4:
				a.Cut(dice.IntN(n), dice.IntN(n), dice.IntN(2) == 0)
			default:
				d := gram(dice.IntN(n+1), dice.IntN(n+1), fmt.Sprint("number ", number))
				if whole := !a.Is(d.From, d.To); a.Send(d) == ok && whole {
					put[string(d.Body)]++
					sent[string(d.Body)] = d
				}
			}
		}
		for i := range a.Count() {
			note(a.At(i))
		}
		for body, times := range put {
			if out[body] != times {
				t.Fatalf("%q was sent and doubled %d times, and carried, lost or still under way %d times", body, times, out[body])
			}
		}
		if len(out) != len(put) {
			t.Fatalf("%d came out of %d", len(out), len(put))
		}
	}
}

// R3: what is handed in stays as it is, and the air does not keep it.
func TestArgumentsStayAndAreNotKept(t *testing.T) {
	for _, count := range []int{0, 1, 7, 64, 1000} {
		whole := bytes.Repeat([]byte{'x'}, count+room)
		d := api.Datagram{From: 0, To: 1, Body: whole[:count]}
		a := newAir(t, 2)
		send(t, a, d)
		wantBool(t, "Double", a.Double(0), true)
		wantErr(t, "Send where it may not be", a.Send(api.Datagram{From: 2, Body: whole[:count]}), errArg)
		a.At(0)
		wantBool(t, "Hold", a.Hold(0), true)
		carried, _ := a.Carry(0)
		spoil(carried.Body)
		if !bytes.Equal(whole, bytes.Repeat([]byte{'x'}, count+room)) {
			t.Fatalf("%d bytes: what was handed in was changed", count)
		}
		for i := range whole {
			whole[i] = 'y'
		}
		wantCarry(t, a, 0, gram(0, 1, string(bytes.Repeat([]byte{'x'}, count))))
	}
}

// spoil writes over a list, spare room too.
func spoil(b []byte) {
	b = b[:cap(b)]
	for i := range b {
		b[i] = '!'
	}
}

// R3: what is handed out is the caller's own, also where it was told twice, or doubled.
func TestAnswersTheirOwn(t *testing.T) {
	for _, count := range []int{1, 5, 8, 33, 1000} {
		want := api.Datagram{From: 1, To: 2, Body: bytes.Repeat([]byte{'x'}, count)}
		a := newAir(t, 3)
		send(t, a, want)
		wantBool(t, "Double", a.Double(0), true)
		wantBool(t, "Double", a.Double(1), true)
		wantUnder(t, a, want, want, want)
		for i := range 3 {
			d, _ := a.At(i)
			spoil(d.Body)
			wantUnder(t, a, want, want, want)
		}
		first, _ := a.At(0)
		second, _ := a.At(0)
		spoil(first.Body)
		if !same(second, want) {
			t.Fatal("two answers share memory")
		}
		first, _ = a.Carry(0)
		second, _ = a.Carry(0)
		spoil(first.Body)
		if !same(second, want) {
			t.Fatal("two that were carried share memory")
		}
		wantUnder(t, a, want)
		send(t, a, gram(0, 1, "behind"))
		spoil(second.Body)
		wantUnder(t, a, want, gram(0, 1, "behind"))
		third, _ := a.Carry(0)
		wantBool(t, "Double", a.Double(0), true)
		spoil(third.Body)
		wantUnder(t, a, gram(0, 1, "behind"), gram(0, 1, "behind"))
	}
}

// What is sent behind what was carried and lost is not seen in what was told ahead of it.
func TestToldStays(t *testing.T) {
	a := texts(t, "a", "b", "c")
	told, _ := a.At(1)
	carried, _ := a.Carry(1)
	wantBool(t, "Lose", a.Lose(0), true)
	wantBool(t, "Hold", a.Hold(0), true)
	send(t, a, gram(2, 2, "z"))
	if !same(told, gram(0, 1, "b")) || !same(carried, gram(0, 1, "b")) {
		t.Errorf("told %v, carried %v", told, carried)
	}
}

// Of several airs each has its own ways and datagrams.
func TestAirsApart(t *testing.T) {
	a, b := newAir(t, 2), newAir(t, 2)
	send(t, a, gram(0, 1, "a"))
	wantErr(t, "cut", a.Cut(0, 1, true), ok)
	wantUnder(t, b)
	wantBool(t, "Is", b.Is(0, 1), false)
	send(t, b, gram(0, 1, "b"))
	wantUnder(t, a, gram(0, 1, "a"))
	wantUnder(t, b, gram(0, 1, "b"))
}

// R2: the same calls have the same answers.
func TestAlike(t *testing.T) {
	tell := func() string {
		dice := newDice()
		a, m := newAir(t, 4), &model{n: 4}
		told := ""
		for range 500 {
			take(t, a, m, anyStep(dice, m))
			for i := range a.Count() {
				d, _ := a.At(i)
				told += fmt.Sprint(d)
			}
		}
		return told
	}
	if first := tell(); first != tell() || first == "" {
		t.Error("not alike")
	}
}

func FuzzSteps(f *testing.F) {
	f.Add([]byte{2, 0, 0, 1, 0, 1, 0, 3, 0, 0, 4, 1, 0, 1, 0, 0, 1, 0, 0})
	f.Add([]byte{3, 5, 0, 1, 0, 0, 1, 6, 0, 1, 0, 0, 1, 2, 0, 0})
	f.Fuzz(func(t *testing.T, bytes []byte) {
		if len(bytes) == 0 {
			return
		}
		n := 1 + int(bytes[0]%mostParties)
		a, m := newAir(t, n), &model{n: n}
		for b := bytes[1:]; len(b) >= 3; b = b[3:] {
			take(t, a, m, step{call: int(b[0]) % calls, a: int(int8(b[1])), b: int(int8(b[2])), body: string(b[:b[0]%4])})
		}
		wantUnder(t, a, m.under...)
		for w := range n * n {
			wantBool(t, "Is", a.Is(w/n, w%n), m.is(w/n, w%n))
		}
	})
}
