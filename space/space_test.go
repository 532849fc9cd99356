package space_test

import (
	"math"
	"math/rand/v2"
	"slices"
	"testing"

	"tabulary/api"
	"tabulary/space"
)

// The numbers of the chapter, told here over again.
const (
	ok       = api.Errno(0)
	errArg   = api.Errno(1)
	errLong  = api.Errno(2)
	errFull  = api.Errno(3)
	errNone  = api.Errno(4)
	errThere = api.Errno(5)
	errNil   = api.Errno(8)

	most = 1 << 16 // cells of a space
)

func newDice() *rand.Rand { return rand.New(rand.NewPCG(16, 17)) }

func pick[T any](dice *rand.Rand, from []T) T { return from[dice.IntN(len(from))] }

func run(at, count int) api.Run { return api.Run{At: at, Count: count} }

func newSpace(tb testing.TB, n int) *space.Space {
	tb.Helper()
	s, err := space.New(n)
	if err != ok || s == nil {
		tb.Fatalf("New(%d): %v, %v", n, s, err)
	}
	return s
}

func wantTake(tb testing.TB, s *space.Space, count, at int) {
	tb.Helper()
	if got, err := s.Take(count); got != at || err != ok {
		tb.Fatalf("Take(%d): %d, %v, want %d", count, got, err, at)
	}
}

func wantNoTake(tb testing.TB, s *space.Space, count int, want api.Errno) {
	tb.Helper()
	if got, err := s.Take(count); got != 0 || err != want {
		tb.Fatalf("Take(%d): %d, %v, want 0, %v", count, got, err, want)
	}
}

func wantHold(tb testing.TB, s *space.Space, at, count int, want api.Errno) {
	tb.Helper()
	if err := s.Hold(run(at, count)); err != want {
		tb.Fatalf("Hold(%d %d): %v, want %v", at, count, err, want)
	}
}

func wantGive(tb testing.TB, s *space.Space, at, count int, want api.Errno) {
	tb.Helper()
	if err := s.Give(run(at, count)); err != want {
		tb.Fatalf("Give(%d %d): %v, want %v", at, count, err, want)
	}
}

// wantRuns holds the free runs, and how many cells these are, against what they should be.
func wantRuns(tb testing.TB, s *space.Space, want ...api.Run) {
	tb.Helper()
	free := 0
	for _, r := range want {
		free += r.Count
	}
	if got := s.Runs(); !slices.Equal(got, want) {
		tb.Fatalf("Runs %v, want %v", got, want)
	}
	if got := s.Free(); got != free {
		tb.Fatalf("Free %d, want %d", got, free)
	}
}

// greatNumbers are those at which sums wrap round, and others far off.
func greatNumbers() []int {
	return []int{math.MinInt, math.MinInt + 1, math.MinInt + 9, -1 << 32, -1 << 31, -most, -1, most + 1, 1 << 31, 1 << 32, math.MaxInt - 9, math.MaxInt - 1, math.MaxInt}
}

// The chapter's examples, line by line.

func TestExampleOfTake(t *testing.T) {
	s := newSpace(t, 10)
	wantTake(t, s, 3, 0)
	wantTake(t, s, 2, 3)
	wantGive(t, s, 0, 3, ok)
	wantTake(t, s, 4, 5)
	wantTake(t, s, 3, 0)
	wantTake(t, s, 1, 9)
	wantNoTake(t, s, 1, errFull)
	wantRuns(t, s)
}

func TestExampleOfHold(t *testing.T) {
	s := newSpace(t, 10)
	wantHold(t, s, 5, 2, ok)
	wantHold(t, s, 6, 1, errThere)
	wantGive(t, s, 4, 2, errNone)
	wantRuns(t, s, run(0, 5), run(7, 3))
}

func TestExampleOfWrongNumbers(t *testing.T) {
	if s, err := space.New(-1); s != nil || err != errArg {
		t.Errorf("New(-1): %v, %v, want nil, %v", s, err, errArg)
	}
	newSpace(t, 0)
	s := newSpace(t, 10)
	wantNoTake(t, s, 0, errArg)
	wantHold(t, s, 9, 2, errArg)
	wantRuns(t, s, run(0, 10))
}

// P16.1

func TestNew(t *testing.T) {
	for _, n := range []int{0, 1, 2, 3, 10, 63, 64, 65, 4096, most - 1, most} {
		s := newSpace(t, n)
		if n == 0 {
			wantRuns(t, s)
		} else {
			wantRuns(t, s, run(0, n))
		}
		wantNoTake(t, s, n+1, errFull)
		wantHold(t, s, 0, n+1, errArg)
		wantHold(t, s, n, 1, errArg)
		wantGive(t, s, n, 1, errArg)
		if n == 0 {
			continue
		}
		wantGive(t, s, 0, n, errNone)
		wantGive(t, s, n-1, 1, errNone)
		wantTake(t, s, n, 0)
		wantRuns(t, s)
		wantNoTake(t, s, 1, errFull)
	}
}

func TestNewRefused(t *testing.T) {
	for _, n := range append(greatNumbers(), most+2, 2*most) {
		want := errArg
		if n > most {
			want = errLong
		}
		if s, err := space.New(n); s != nil || err != want {
			t.Errorf("New(%d): %v, %v, want nil, %v", n, s, err, want)
		}
	}
}

// A space of no cells has none to take, to hold or to give.
func TestNoCells(t *testing.T) {
	s := newSpace(t, 0)
	for _, n := range append(greatNumbers(), 0, 1, 2) {
		want := errFull
		if n < 1 {
			want = errArg
		}
		wantNoTake(t, s, n, want)
		for _, at := range append(greatNumbers(), 0, 1, 2) {
			wantHold(t, s, at, n, errArg)
			wantGive(t, s, at, n, errArg)
		}
	}
	wantRuns(t, s)
}

// P16.2

// gaps is a space of 20 cells with free runs of 2, 1, 4, 3 and 4 cells.
func gaps(tb testing.TB) *space.Space {
	tb.Helper()
	s := newSpace(tb, 20)
	for _, r := range []api.Run{run(2, 1), run(4, 2), run(10, 1), run(14, 2)} {
		wantHold(tb, s, r.At, r.Count, ok)
	}
	wantRuns(tb, s, run(0, 2), run(3, 1), run(6, 4), run(11, 3), run(16, 4))
	return s
}

// It is the first run that has as many cells: not the least one, nor the greatest, nor the last.
func TestTakeFirstThatFits(t *testing.T) {
	for count, want := range map[int]int{1: 0, 2: 0, 3: 6, 4: 6} {
		wantTake(t, gaps(t), count, want)
	}
	s := gaps(t)
	wantTake(t, s, 3, 6)
	wantRuns(t, s, run(0, 2), run(3, 1), run(9, 1), run(11, 3), run(16, 4))
	wantTake(t, s, 3, 11)
	wantTake(t, s, 3, 16)
	wantNoTake(t, s, 3, errFull)
	wantTake(t, s, 1, 0)
	wantTake(t, s, 1, 1)
	wantTake(t, s, 1, 3)
	wantTake(t, s, 1, 9)
	wantTake(t, s, 1, 19)
	wantRuns(t, s)
}

// Cells that are free, but not side by side, are not enough.
func TestTakeFull(t *testing.T) {
	s := gaps(t)
	for _, count := range []int{5, 6, 14, 20, 21, most, most + 1, 1 << 31, math.MaxInt - 1, math.MaxInt} {
		wantNoTake(t, s, count, errFull)
	}
	wantRuns(t, s, run(0, 2), run(3, 1), run(6, 4), run(11, 3), run(16, 4))
}

func TestTakeRefused(t *testing.T) {
	full := newSpace(t, 3)
	wantTake(t, full, 3, 0)
	for _, count := range []int{0, -1, -2, -20, -most, -1 << 31, -1 << 32, math.MinInt + 1, math.MinInt} {
		s := gaps(t)
		wantNoTake(t, s, count, errArg)
		wantRuns(t, s, run(0, 2), run(3, 1), run(6, 4), run(11, 3), run(16, 4))
		wantNoTake(t, full, count, errArg)
	}
}

// Every count and every place of one gap.
func TestTakeOneGap(t *testing.T) {
	const n = 9
	for at := range n {
		for long := 1; long <= n-at; long++ {
			for count := 1; count <= n+1; count++ {
				s := newSpace(t, n)
				wantTake(t, s, n, 0)
				wantGive(t, s, at, long, ok)
				switch {
				case count > long:
					wantNoTake(t, s, count, errFull)
					wantRuns(t, s, run(at, long))
				case count == long:
					wantTake(t, s, count, at)
					wantRuns(t, s)
				default:
					wantTake(t, s, count, at)
					wantRuns(t, s, run(at+count, long-count))
				}
			}
		}
	}
}

// P16.3

func TestHold(t *testing.T) {
	const n = 8
	for at := range n {
		for count := 1; count <= n-at; count++ {
			s := newSpace(t, n)
			wantHold(t, s, at, count, ok)
			var want []api.Run
			if at > 0 {
				want = append(want, run(0, at))
			}
			if at+count < n {
				want = append(want, run(at+count, n-at-count))
			}
			wantRuns(t, s, want...)
			wantHold(t, s, at, count, errThere)
			wantGive(t, s, at, count, ok)
			wantRuns(t, s, run(0, n))
			wantGive(t, s, at, count, errNone)
		}
	}
}

// One cell that is taken is enough, wherever in the run it stands, and so is one that is free for Give.
func TestOneCellOfRun(t *testing.T) {
	const n = 8
	for cell := range n {
		s := newSpace(t, n)
		wantHold(t, s, cell, 1, ok)
		taken := newSpace(t, n)
		wantTake(t, taken, n, 0)
		wantGive(t, taken, cell, 1, ok)
		for at := range n {
			for count := 1; count <= n-at; count++ {
				if cell < at || cell >= at+count {
					continue
				}
				wantHold(t, s, at, count, errThere)
				wantGive(t, taken, at, count, errNone)
			}
		}
		wantHold(t, taken, cell, 1, ok)
		wantRuns(t, taken)
		wantGive(t, s, cell, 1, ok)
		wantRuns(t, s, run(0, n))
	}
}

func TestGiveJoins(t *testing.T) {
	for _, c := range []struct {
		at, count int
		want      []api.Run
	}{
		{2, 1, []api.Run{run(0, 4), run(6, 4), run(11, 3), run(16, 4)}},
		{4, 1, []api.Run{run(0, 2), run(3, 2), run(6, 4), run(11, 3), run(16, 4)}},
		{5, 1, []api.Run{run(0, 2), run(3, 1), run(5, 5), run(11, 3), run(16, 4)}},
		{4, 2, []api.Run{run(0, 2), run(3, 7), run(11, 3), run(16, 4)}},
		{10, 1, []api.Run{run(0, 2), run(3, 1), run(6, 8), run(16, 4)}},
		{14, 2, []api.Run{run(0, 2), run(3, 1), run(6, 4), run(11, 9)}},
	} {
		s := gaps(t)
		wantGive(t, s, c.at, c.count, ok)
		wantRuns(t, s, c.want...)
	}
}

func TestGiveAtTheEnds(t *testing.T) {
	s := newSpace(t, 6)
	wantTake(t, s, 6, 0)
	wantGive(t, s, 5, 1, ok)
	wantRuns(t, s, run(5, 1))
	wantGive(t, s, 0, 1, ok)
	wantRuns(t, s, run(0, 1), run(5, 1))
	wantGive(t, s, 2, 2, ok)
	wantRuns(t, s, run(0, 1), run(2, 2), run(5, 1))
	wantGive(t, s, 4, 1, ok)
	wantRuns(t, s, run(0, 1), run(2, 4))
	wantGive(t, s, 1, 1, ok)
	wantRuns(t, s, run(0, 6))
}

// What is given need not be what was taken by one call: cells are asked, not calls.
func TestGiveOtherwiseThanTaken(t *testing.T) {
	s := newSpace(t, 10)
	wantTake(t, s, 4, 0)
	wantHold(t, s, 4, 2, ok)
	wantTake(t, s, 3, 6)
	wantGive(t, s, 3, 4, ok)
	wantRuns(t, s, run(3, 4), run(9, 1))
	wantGive(t, s, 1, 1, ok)
	wantGive(t, s, 0, 3, errNone)
	wantGive(t, s, 0, 1, ok)
	wantGive(t, s, 7, 2, ok)
	wantRuns(t, s, run(0, 2), run(3, 7))
	wantGive(t, s, 2, 1, ok)
	wantRuns(t, s, run(0, 10))
}

func isRight(n, at, count int) bool {
	return count >= 1 && count <= n && at >= 0 && at < n && at+count <= n
}

func TestRunsThatAreNotRight(t *testing.T) {
	const n = 10
	numbers := append(greatNumbers(), -10, -9, -2, 0, 1, 2, 5, 8, 9, 10, 11, 12, 20)
	for _, at := range numbers {
		for _, count := range numbers {
			if isRight(n, at, count) {
				continue
			}
			s := newSpace(t, n)
			wantHold(t, s, at, count, errArg)
			wantGive(t, s, at, count, errArg)
			wantRuns(t, s, run(0, n))
			wantTake(t, s, n, 0)
			wantHold(t, s, at, count, errArg)
			wantGive(t, s, at, count, errArg)
			wantRuns(t, s)
		}
	}
}

// A run that is not right is told as such, also where one of its cells is taken, or free.
func TestErrorsInOrder(t *testing.T) {
	s := newSpace(t, 10)
	wantHold(t, s, 5, 5, ok)
	wantHold(t, s, 5, 6, errArg)
	wantHold(t, s, 9, 2, errArg)
	wantHold(t, s, 5, 0, errArg)
	wantGive(t, s, 0, 11, errArg)
	wantGive(t, s, -1, 2, errArg)
	wantGive(t, s, 4, 7, errArg)
	wantGive(t, s, 4, 0, errArg)
	wantNoTake(t, s, 6, errFull)
	wantRuns(t, s, run(0, 5))
}

// P16.4

func TestNil(t *testing.T) {
	var s *space.Space
	for _, n := range append(greatNumbers(), 0, 1, 2) {
		wantNoTake(t, s, n, errNil)
		for _, at := range append(greatNumbers(), 0, 1, 2) {
			wantHold(t, s, at, n, errNil)
			wantGive(t, s, at, n, errNil)
		}
	}
	wantRuns(t, s)
}

// model is the chapter told over again: of each cell whether it is taken.
type model []bool

// all tells whether all cells of a run are taken, or all are free.
func (m model) all(at, count int, taken bool) bool {
	return !slices.Contains(m[at:at+count], !taken)
}

func (m model) set(at, count int, taken bool) {
	for i := range count {
		m[at+i] = taken
	}
}

func (m model) take(count int) (int, api.Errno) {
	if count < 1 {
		return 0, errArg
	}
	for at := 0; count <= len(m) && at+count <= len(m); at++ {
		if m.all(at, count, false) {
			m.set(at, count, true)
			return at, ok
		}
	}
	return 0, errFull
}

func (m model) hold(r api.Run) api.Errno {
	if !isRight(len(m), r.At, r.Count) {
		return errArg
	}
	if !m.all(r.At, r.Count, false) {
		return errThere
	}
	m.set(r.At, r.Count, true)
	return ok
}

func (m model) give(r api.Run) api.Errno {
	if !isRight(len(m), r.At, r.Count) {
		return errArg
	}
	if !m.all(r.At, r.Count, true) {
		return errNone
	}
	m.set(r.At, r.Count, false)
	return ok
}

// runs are those runs of free cells that have no free one right ahead and none right behind.
func (m model) runs() []api.Run {
	var l []api.Run
	for at := range m {
		if m[at] || at > 0 && !m[at-1] {
			continue
		}
		end := at
		for end < len(m) && !m[end] {
			end++
		}
		l = append(l, run(at, end-at))
	}
	return l
}

const (
	callTake = iota
	callHold
	callGive
	callKinds
)

// call is a call of a space; Take has a Count alone.
type call struct {
	kind int
	api.Run
}

// hold makes one call of a space and of the model, and holds the answers, and what can be asked then, against each other.
func hold(tb testing.TB, s *space.Space, m model, c call) {
	tb.Helper()
	ahead := slices.Clone(m)
	var got, want api.Errno
	gotAt, wantAt := 0, 0
	switch c.kind {
	case callTake:
		gotAt, got = s.Take(c.Count)
		wantAt, want = m.take(c.Count)
	case callHold:
		got, want = s.Hold(c.Run), m.hold(c.Run)
	case callGive:
		got, want = s.Give(c.Run), m.give(c.Run)
	}
	if gotAt != wantAt || got != want {
		tb.Fatalf("%+v of %v: %d, %v, want %d, %v", c, ahead, gotAt, got, wantAt, want)
	}
	wantRuns(tb, s, m.runs()...)
}

// numbersOf are those at the edges of a space of n cells, all of them within, and others far off.
func numbersOf(n int) []int {
	l := []int{math.MinInt, -most, -2, most, math.MaxInt - n, math.MaxInt}
	for i := -1; i <= n+2; i++ {
		l = append(l, i)
	}
	return l
}

// held is a space of the model's cells, made by holding its taken cells one by one.
func held(tb testing.TB, m model) *space.Space {
	tb.Helper()
	s := newSpace(tb, len(m))
	for at, taken := range m {
		if taken {
			wantHold(tb, s, at, 1, ok)
		}
	}
	return s
}

// given is the same, made by giving back the free cells one by one, the last first.
func given(tb testing.TB, m model) *space.Space {
	tb.Helper()
	s := newSpace(tb, len(m))
	if len(m) > 0 {
		wantTake(tb, s, len(m), 0)
	}
	for at := len(m) - 1; at >= 0; at-- {
		if !m[at] {
			wantGive(tb, s, at, 1, ok)
		}
	}
	return s
}

func modelOf(bits, n int) model {
	m := make(model, n)
	for i := range m {
		m[i] = bits>>i&1 == 1
	}
	return m
}

// Every call on every space of few cells, whichever of them are taken, and however it came to that.
func TestAllOfFewCells(t *testing.T) {
	for n := range 8 {
		for bits := range 1 << n {
			for _, makes := range []func(testing.TB, model) *space.Space{held, given} {
				for _, at := range numbersOf(n) {
					for _, count := range numbersOf(n) {
						for kind := range callKinds {
							if kind == callTake && at != 0 {
								continue
							}
							m := modelOf(bits, n)
							hold(t, makes(t, m), m, call{kind, run(at, count)})
						}
					}
				}
			}
		}
	}
}

// All short runs of some calls, on a space of six cells.
func TestAllShortRuns(t *testing.T) {
	calls := []call{
		{callTake, run(0, 1)},
		{callTake, run(0, 2)},
		{callTake, run(0, 3)},
		{callHold, run(1, 1)},
		{callHold, run(3, 2)},
		{callHold, run(5, 1)},
		{callGive, run(0, 1)},
		{callGive, run(1, 2)},
		{callGive, run(4, 1)},
		{callGive, run(3, 3)},
	}
	const length = 5
	runs := 1
	for range length {
		runs *= len(calls)
	}
	for number := range runs {
		s, m := newSpace(t, 6), make(model, 6)
		for left, i := number, 0; i < length; i++ {
			hold(t, s, m, calls[left%len(calls)])
			left /= len(calls)
		}
	}
}

// anyNumber is mostly from 0 to a bound, sometimes a little outside, sometimes far off.
func anyNumber(dice *rand.Rand, bound int) int {
	switch dice.IntN(20) {
	case 0:
		return pick(dice, greatNumbers())
	case 1:
		return bound + dice.IntN(3)
	}
	return dice.IntN(bound + 1)
}

func TestByDice(t *testing.T) {
	dice := newDice()
	for range 500 {
		n := dice.IntN(200)
		long := 1 + dice.IntN(1+n/4)
		s, m := newSpace(t, n), make(model, n)
		for range 200 {
			hold(t, s, m, call{dice.IntN(callKinds), run(anyNumber(dice, n), anyNumber(dice, long))})
		}
	}
}

// P16.5

// shares tells whether two runs have a cell in common.
func shares(a, b api.Run) bool { return a.At < b.At+b.Count && b.At < a.At+a.Count }

// wantApart holds what is taken, with the free runs, to be all cells, each of them once.
func wantApart(tb testing.TB, s *space.Space, n int, taken []api.Run) {
	tb.Helper()
	times := make([]int, n)
	for _, r := range slices.Concat(taken, s.Runs()) {
		for i := range r.Count {
			times[r.At+i]++
		}
	}
	for cell, c := range times {
		if c != 1 {
			tb.Fatalf("cell %d is met %d times in %v and %v", cell, c, taken, s.Runs())
		}
	}
}

// takeAny takes or holds some cells, and tells which, if it was not refused.
func takeAny(dice *rand.Rand, s *space.Space, n int) (api.Run, bool) {
	r := run(dice.IntN(n), 1+dice.IntN(5))
	if dice.IntN(2) == 0 {
		return r, s.Hold(r) == ok
	}
	at, err := s.Take(r.Count)
	return run(at, r.Count), err == ok
}

func TestNoCellTakenTwice(t *testing.T) {
	dice := newDice()
	for range 200 {
		n := 1 + dice.IntN(60)
		s := newSpace(t, n)
		var taken []api.Run
		for range 100 {
			if len(taken) > 0 && dice.IntN(3) == 0 {
				i := dice.IntN(len(taken))
				wantGive(t, s, taken[i].At, taken[i].Count, ok)
				taken = slices.Delete(taken, i, i+1)
			} else if r, done := takeAny(dice, s, n); done {
				for _, other := range taken {
					if shares(r, other) {
						t.Fatalf("%v and %v were both taken", r, other)
					}
				}
				taken = append(taken, r)
			}
			wantApart(t, s, n, taken)
		}
	}
}

// What is given back makes the space as it was, in whatever order it is given.
func TestGivenBack(t *testing.T) {
	dice := newDice()
	for range 300 {
		n := 1 + dice.IntN(60)
		s := newSpace(t, n)
		for range dice.IntN(10) {
			takeAny(dice, s, n)
		}
		was := s.Runs()
		var taken []api.Run
		for range 20 {
			if r, done := takeAny(dice, s, n); done {
				taken = append(taken, r)
			}
		}
		dice.Shuffle(len(taken), func(i, j int) { taken[i], taken[j] = taken[j], taken[i] })
		for _, r := range taken {
			wantGive(t, s, r.At, r.Count, ok)
		}
		wantRuns(t, s, was...)
		wantSameTakes(t, s, was, n)
	}
}

// wantSameTakes holds a space to take cells as one does that was made of the same free runs at once.
func wantSameTakes(tb testing.TB, s *space.Space, free []api.Run, n int) {
	tb.Helper()
	m := make(model, n)
	m.set(0, n, true)
	for _, r := range free {
		m.set(r.At, r.Count, false)
	}
	for count := 7; count > 0; count-- {
		for {
			at, err := m.take(count)
			if err != ok {
				wantNoTake(tb, s, count, err)
				break
			}
			wantTake(tb, s, count, at)
		}
	}
	wantRuns(tb, s)
}

// Take answers the least place at which Hold of as many would be OK; where there is none, it is refused.
func TestTakeIsLeastHold(t *testing.T) {
	const n = 7
	for bits := range 1 << n {
		for count := 1; count <= n; count++ {
			want, wantErr := 0, errFull
			for at := n - count; at >= 0; at-- {
				if held(t, modelOf(bits, n)).Hold(run(at, count)) == ok {
					want, wantErr = at, ok
				}
			}
			s := held(t, modelOf(bits, n))
			if at, err := s.Take(count); at != want || err != wantErr {
				t.Fatalf("Take(%d) of %v: %d, %v, want %d, %v", count, modelOf(bits, n), at, err, want, wantErr)
			}
		}
	}
}

// everyOther is the greatest space with as many free runs as can be: the cells of even numbers.
func everyOther(tb testing.TB) (*space.Space, []api.Run) {
	tb.Helper()
	s := newSpace(tb, most)
	var free []api.Run
	for at := 0; at < most; at += 2 {
		wantHold(tb, s, at+1, 1, ok)
		free = append(free, run(at, 1))
	}
	wantRuns(tb, s, free...)
	return s, free
}

func TestGreatest(t *testing.T) {
	s, free := everyOther(t)
	wantNoTake(t, s, 2, errFull)
	wantHold(t, s, most-2, 2, errThere)
	wantHold(t, s, most-1, 1, errThere)
	wantHold(t, s, 0, most, errThere)
	wantHold(t, s, 1, most-1, errThere)
	wantHold(t, s, 0, most+1, errArg)
	wantHold(t, s, most, 1, errArg)
	wantGive(t, s, 0, most, errNone)
	wantGive(t, s, 1, most-1, errNone)
	wantGive(t, s, most-1, 2, errArg)
	wantRuns(t, s, free...)
	wantGive(t, s, most-1, 1, ok)
	wantTake(t, s, 2, most-2)
	wantTake(t, s, 1, 0)
	wantRuns(t, s, free[1:len(free)-1]...)
}

func TestGreatestGivenBack(t *testing.T) {
	s, free := everyOther(t)
	dice := newDice()
	dice.Shuffle(len(free), func(i, j int) { free[i], free[j] = free[j], free[i] })
	for _, r := range free {
		wantGive(t, s, r.At+1, 1, ok)
	}
	wantRuns(t, s, run(0, most))
	wantTake(t, s, most, 0)
	for _, r := range free {
		wantGive(t, s, r.At, 2, ok)
	}
	wantRuns(t, s, run(0, most))
}

func TestGreatestCellByCell(t *testing.T) {
	s := newSpace(t, most)
	for at := range most {
		wantTake(t, s, 1, at)
	}
	wantNoTake(t, s, 1, errFull)
	for at := most - 1; at >= 0; at-- {
		wantGive(t, s, at, 1, ok)
	}
	wantRuns(t, s, run(0, most))
}

// What a space is asked hangs on that space alone.
func TestSpacesApart(t *testing.T) {
	a, b := newSpace(t, 10), newSpace(t, 10)
	wantTake(t, a, 4, 0)
	wantRuns(t, b, run(0, 10))
	wantHold(t, b, 8, 2, ok)
	wantRuns(t, a, run(4, 6))
	wantGive(t, a, 8, 1, errNone)
	wantTake(t, b, 4, 0)
	wantGive(t, b, 0, 4, ok)
	wantHold(t, a, 0, 4, errThere)
	wantRuns(t, newSpace(t, 10), run(0, 10))
}

// scrawl writes over a list and the room behind it.
func scrawl(l []api.Run) {
	l = l[:cap(l)]
	for i := range l {
		l[i] = run(-7, 1000)
	}
}

func TestAnswersTheirOwn(t *testing.T) {
	s := gaps(t)
	want := s.Runs()
	first, second := s.Runs(), s.Runs()
	scrawl(first)
	if !slices.Equal(second, want) {
		t.Error("two answers share memory")
	}
	wantRuns(t, s, want...)
	scrawl(second)
	wantTake(t, s, 3, 6)
	wantGive(t, s, 6, 3, ok)
	wantRuns(t, s, want...)
	// An answer stays as it is, too, whatever is done to the space.
	stays := s.Runs()
	wantTake(t, s, 1, 0)
	wantGive(t, s, 10, 1, ok)
	wantHold(t, s, 17, 1, ok)
	if !slices.Equal(stays, want) {
		t.Error("an answer was changed by a later call")
	}
}

// madeOf reads calls out of bytes, three at a time.
func madeOf(data []byte) []call {
	var calls []call
	for ; len(data) >= 3; data = data[3:] {
		calls = append(calls, call{int(data[0]) % callKinds, run(int(int8(data[1])), int(int8(data[2])))})
	}
	return calls
}

func FuzzAll(f *testing.F) {
	f.Add([]byte{0, 0, 3, 0, 0, 2, 2, 0, 3, 0, 0, 4, 0, 0, 3, 0, 0, 1, 0, 0, 1})
	f.Add([]byte{1, 5, 2, 1, 6, 1, 2, 4, 2, 2, 5, 1, 2, 6, 1, 1, 39, 2, 1, 38, 2})
	f.Add([]byte{0, 0, 40, 2, 255, 2, 2, 0, 1, 2, 39, 1, 2, 1, 38, 0, 0, 128, 1, 127, 127})
	f.Fuzz(func(t *testing.T, data []byte) {
		const n = 40
		s, m := newSpace(t, n), make(model, n)
		for _, c := range madeOf(data[:min(len(data), 3000)]) {
			hold(t, s, m, c)
		}
	})
}
