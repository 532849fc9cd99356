package code_test

import (
	"bytes"
	"fmt"
	"math"
	"math/rand/v2"
	"slices"
	"testing"

	"tabulary/api"
	"tabulary/code"
	"tabulary/gf"
	"tabulary/matrix"
)

func newDice() *rand.Rand { return rand.New(rand.NewPCG(3, 6)) }

func someRows(dice *rand.Rand, count, length int) [][]byte {
	rows := make([][]byte, count)
	for i := range rows {
		rows[i] = make([]byte, length)
		for j := range rows[i] {
			rows[i][j] = byte(dice.UintN(256))
		}
	}
	return rows
}

func filled(count, length int, c byte) [][]byte {
	rows := make([][]byte, count)
	for i := range rows {
		rows[i] = bytes.Repeat([]byte{c}, length)
	}
	return rows
}

func same(a, b [][]byte) bool { return slices.EqualFunc(a, b, bytes.Equal) }

func copied(a [][]byte) [][]byte {
	c := make([][]byte, len(a))
	for i := range a {
		c[i] = bytes.Clone(a[i])
	}
	return c
}

// shown is rows, or of many bytes only their shape.
func shown(a [][]byte) string {
	if len(a) > 0 && len(a)*len(a[0]) > 64 {
		return fmt.Sprintf("(%d rows of %d)", len(a), len(a[0]))
	}
	return fmt.Sprint(a)
}

func wantRows(t *testing.T, what string, got [][]byte, err api.Errno, want [][]byte, wantErr api.Errno) {
	t.Helper()
	if err != wantErr || !same(got, want) {
		t.Errorf("%s: %s %v, not %s %v", what, shown(got), err, shown(want), wantErr)
	}
}

func wantRow(t *testing.T, what string, got []byte, err api.Errno, want []byte, wantErr api.Errno) {
	t.Helper()
	wantRows(t, what, [][]byte{got}, err, [][]byte{want}, wantErr)
}

// valueAt is what the polynomial with these coefficients (that of x to the 0 first) has at a point.
func valueAt(coefficients []byte, point byte) byte {
	var v byte
	for _, c := range slices.Backward(coefficients) {
		v = gf.Add(gf.Mul(v, point), c)
	}
	return v
}

// polynomialWord is a word by chapter 3's words: in each column a polynomial of a degree below k, whose values at the points 0 to n - 1 are the shards' bytes. Its first k rows may be any data, since k values and k coefficients go with one another.
func polynomialWord(dice *rand.Rand, k, n, length int) [][]byte {
	word := filled(n, length, 0)
	for j := range length {
		coefficients := someRows(dice, 1, k)[0]
		for i := range word {
			word[i][j] = valueAt(coefficients, byte(i))
		}
	}
	return word
}

// weights are by how much each of k data counts at a point: the values there of the polynomials that have 1 at one of the points 0 to k - 1, and 0 at the others.
func weights(k int, point byte) []byte {
	w := bytes.Repeat([]byte{1}, k)
	for j := range w {
		below := byte(1)
		for m := range k {
			if m != j {
				w[j] = gf.Mul(w[j], gf.Add(point, byte(m)))
				below = gf.Mul(below, gf.Add(byte(j), byte(m)))
			}
		}
		w[j], _ = gf.Div(w[j], below)
	}
	return w
}

// definedWord is the word of given data, by weights.
func definedWord(data [][]byte, n int) [][]byte {
	word := filled(n, len(data[0]), 0)
	for i := range word {
		for t, w := range weights(len(data), byte(i)) {
			for j := range word[i] {
				word[i][j] = gf.Add(word[i][j], gf.Mul(w, data[t][j]))
			}
		}
	}
	return word
}

func encoded(t *testing.T, data [][]byte, n int) [][]byte {
	t.Helper()
	word, err := code.Encode(data, n)
	if err != api.OK || len(word) != n {
		t.Fatalf("Encode of %d rows for %d: %d shards, %v", len(data), n, len(word), err)
	}
	return word
}

func chosen(rows [][]byte, at []int) [][]byte {
	c := make([][]byte, len(at))
	for i, number := range at {
		c[i] = rows[number]
	}
	return c
}

// subset is the numbers of the bits that are set.
func subset(bits uint) []int {
	var at []int
	for i := 0; bits>>i != 0; i++ {
		if bits>>i&1 == 1 {
			at = append(at, i)
		}
	}
	return at
}

func numbersTo(n int) []int {
	at := make([]int, n)
	for i := range at {
		at[i] = i
	}
	return at
}

// eachPair goes through all k and n that are right.
func eachPair(most int, visit func(k, n int)) {
	for n := 1; n <= most; n++ {
		for k := 1; k <= n; k++ {
			visit(k, n)
		}
	}
}

// P3.1 to P3.4: the chapter's table.
func TestExamples(t *testing.T) {
	for _, x := range []struct {
		k, n int
		want [][]byte
		err  api.Errno
	}{
		{1, 3, [][]byte{{1}, {1}, {1}}, api.OK},
		{2, 2, [][]byte{{1, 0}, {0, 1}}, api.OK},
		{2, 4, [][]byte{{1, 0}, {0, 1}, {3, 2}, {2, 3}}, api.OK},
		{0, 3, nil, api.ErrArg}, {3, 2, nil, api.ErrArg}, {1, 33, nil, api.ErrLong},
	} {
		m, err := code.Table(x.k, x.n)
		wantRows(t, fmt.Sprintf("Table(%d, %d)", x.k, x.n), m, err, x.want, x.err)
	}
	word, err := code.Encode([][]byte{{5}, {7}}, 4)
	wantRows(t, "Encode", word, err, [][]byte{{5}, {7}, {1}, {3}}, api.OK)
	data, err := code.Decode(2, 4, [][]byte{{3}, {5}}, []int{3, 0})
	wantRows(t, "Decode", data, err, [][]byte{{5}, {7}}, api.OK)
	data, err = code.Decode(2, 4, [][]byte{{1}, {3}}, []int{2, 3})
	wantRows(t, "Decode of the last two", data, err, [][]byte{{5}, {7}}, api.OK)
	data, err = code.Decode(2, 4, [][]byte{{1}}, []int{2})
	wantRows(t, "Decode of one shard", data, err, nil, api.ErrFew)
	data, err = code.Decode(2, 4, [][]byte{{5}, {7}, {2}}, []int{0, 1, 2})
	wantRows(t, "Decode of no word", data, err, nil, api.ErrWord)
	row, err := code.Rebuild(2, 4, [][]byte{{5}, {3}}, []int{0, 3}, 2)
	wantRow(t, "Rebuild", row, err, []byte{1}, api.OK)
	row, err = code.Rebuild(2, 4, [][]byte{{5}, {3}}, []int{0, 3}, 4)
	wantRow(t, "Rebuild of a shard that is none", row, err, nil, api.ErrArg)
	row, err = code.Rebuild(2, 4, [][]byte{{5}, {5}}, []int{0, 0}, 1)
	wantRow(t, "Rebuild of one shard twice", row, err, nil, api.ErrArg)
}

// P3.1: every k and n that are right: the shape, the first k rows, and the numbers, which are the values of polynomials that have 1 at one point of the data and 0 at the others.
func TestTableNumbers(t *testing.T) {
	eachPair(api.MaxSide, func(k, n int) {
		m, err := code.Table(k, n)
		want := make([][]byte, n)
		for i := range want {
			want[i] = weights(k, byte(i))
		}
		wantRows(t, fmt.Sprintf("Table(%d, %d)", k, n), m, err, want, api.OK)
		one, _ := matrix.One(k)
		if len(m) != n || !same(m[:k], one) {
			t.Errorf("Table(%d, %d) does not begin with One", k, n)
		}
	})
}

// P3.1: the product with data is their word, for every k and n.
func TestTableMakesWords(t *testing.T) {
	dice := newDice()
	eachPair(api.MaxSide, func(k, n int) {
		m, _ := code.Table(k, n)
		want := polynomialWord(dice, k, n, 4)
		word, err := matrix.Mul(m, want[:k])
		wantRows(t, fmt.Sprintf("product with Table(%d, %d)", k, n), word, err, want, api.OK)
	})
}

// wrongSides are k and n that are not right, and why: ErrArg is told ahead of ErrLong.
var wrongSides = []struct {
	k, n int
	want api.Errno
}{
	{0, 0, api.ErrArg}, {0, 1, api.ErrArg}, {0, 32, api.ErrArg}, {-1, 1, api.ErrArg}, {-1, -1, api.ErrArg},
	{1, 0, api.ErrArg}, {1, -1, api.ErrArg}, {2, 1, api.ErrArg}, {32, 31, api.ErrArg}, {33, 32, api.ErrArg},
	{-5, 4, api.ErrArg}, {-2, -1, api.ErrArg}, {1, -32, api.ErrArg}, {257, 1, api.ErrArg}, {1 << 32, 4, api.ErrArg},
	{0, 33, api.ErrArg}, {-1, 33, api.ErrArg}, {34, 33, api.ErrArg}, {100, 99, api.ErrArg},
	{0, math.MaxInt, api.ErrArg}, {math.MinInt, math.MaxInt, api.ErrArg}, {math.MaxInt, math.MaxInt - 1, api.ErrArg},
	{math.MinInt, math.MinInt, api.ErrArg}, {math.MaxInt, math.MinInt, api.ErrArg}, {1, math.MinInt, api.ErrArg},
	{math.MinInt, 1, api.ErrArg}, {math.MaxInt, 1, api.ErrArg}, {math.MaxInt, 32, api.ErrArg},
	{1, 33, api.ErrLong}, {2, 33, api.ErrLong}, {32, 33, api.ErrLong}, {33, 33, api.ErrLong}, {33, 34, api.ErrLong},
	{1, 256, api.ErrLong}, {1, 257, api.ErrLong}, {1, 1<<32 + 1, api.ErrLong}, {1, math.MaxInt, api.ErrLong},
	{math.MaxInt, math.MaxInt, api.ErrLong}, {math.MaxInt - 1, math.MaxInt, api.ErrLong},
}

// P3.1: k and n that are not right.
func TestTableErrors(t *testing.T) {
	for _, x := range wrongSides {
		m, err := code.Table(x.k, x.n)
		wantRows(t, fmt.Sprintf("Table(%d, %d)", x.k, x.n), m, err, nil, x.want)
	}
	for _, k := range []int{1, 2, 31, 32} {
		if m, err := code.Table(k, api.MaxSide); err != api.OK || len(m) != api.MaxSide {
			t.Errorf("Table(%d, 32): %d rows, %v", k, len(m), err)
		}
	}
}

// P3.2: words of every k and n, of rows as long as a block's and of other lengths.
func TestEncodeWords(t *testing.T) {
	dice := newDice()
	eachPair(api.MaxSide, func(k, n int) {
		want := polynomialWord(dice, k, n, 1+dice.IntN(5))
		word, err := code.Encode(want[:k], n)
		wantRows(t, fmt.Sprintf("Encode of %d rows for %d", k, n), word, err, want, api.OK)
	})
	for _, length := range []int{0, 1, 2, 95, 96, 97, 255, 256, 257, 1000, 16416} {
		for _, x := range [][2]int{{1, 1}, {1, 3}, {2, 3}, {8, 15}} {
			data := someRows(dice, x[0], length)
			word, err := code.Encode(data, x[1])
			wantRows(t, fmt.Sprintf("Encode of rows of %d", length), word, err, definedWord(data, x[1]), api.OK)
		}
	}
}

// P3.2: rows of the greatest length.
func TestEncodeLongRows(t *testing.T) {
	data := someRows(newDice(), 2, api.MaxVector)
	word, err := code.Encode(data, 4)
	wantRows(t, "Encode of the longest rows", word, err, definedWord(data, 4), api.OK)
	word, err = code.Encode(filled(32, api.MaxVector, 9), 32)
	wantRows(t, "Encode of the most rows", word, err, filled(32, api.MaxVector, 9), api.OK)
}

// P3.2: with one row of data each shard is that row; with as many shards as rows the word is the data; data of noughts are noughts.
func TestEncodePlainWords(t *testing.T) {
	dice := newDice()
	for n := 1; n <= api.MaxSide; n++ {
		row := someRows(dice, 1, 9)
		word, err := code.Encode(row, n)
		wantRows(t, "Encode of one row", word, err, slices.Repeat(row, n), api.OK)
		data := someRows(dice, n, 9)
		word, err = code.Encode(data, n)
		wantRows(t, "Encode without other shards", word, err, data, api.OK)
		word, err = code.Encode(filled(n, 3, 0), api.MaxSide)
		wantRows(t, "Encode of noughts", word, err, filled(api.MaxSide, 3, 0), api.OK)
		word, err = code.Encode(make([][]byte, n), api.MaxSide)
		wantRows(t, "Encode of rows without bytes", word, err, filled(api.MaxSide, 0, 0), api.OK)
	}
}

// wrongRows are rows that may not be, and why.
var wrongRows = []struct {
	what string
	rows [][]byte
	want api.Errno
}{
	{"a row that is too long", filled(1, api.MaxVector+1, 1), api.ErrLong},
	{"rows that are too long", filled(3, api.MaxVector+1, 1), api.ErrLong},
	{"a last row that is too long", append(filled(2, 3, 1), make([]byte, api.MaxVector+1)), api.ErrLong},
	{"a first row that is too long", [][]byte{make([]byte, 2*api.MaxVector), {1}}, api.ErrLong},
	{"a long row behind one of another length", [][]byte{{1}, {1, 2}, make([]byte, api.MaxVector+1)}, api.ErrLong},
	{"the greatest length and one more", [][]byte{make([]byte, api.MaxVector), make([]byte, api.MaxVector+1)}, api.ErrLong},
	{"a second row that is longer", [][]byte{{1}, {2, 3}}, api.ErrShape},
	{"a second row that is shorter", [][]byte{{1, 2}, {3}}, api.ErrShape},
	{"a second row that is empty", [][]byte{{1}, {}}, api.ErrShape},
	{"a first row that is empty", [][]byte{nil, {1}}, api.ErrShape},
	{"a middle row that is longer", [][]byte{{1, 2, 3}, {1, 2, 3, 4}, {5, 6, 7}}, api.ErrShape},
	{"a last row that is shorter", append(filled(31, 4, 1), make([]byte, 3)), api.ErrShape},
	{"the greatest length and one less", [][]byte{make([]byte, api.MaxVector), make([]byte, api.MaxVector-1)}, api.ErrShape},
}

// P3.2: what is wrong with k and n is told first, then what is wrong with the rows.
func TestEncodeErrors(t *testing.T) {
	for _, rows := range [][][]byte{nil, {}} {
		for _, n := range []int{math.MinInt, -1, 0, 1, 32, 33, math.MaxInt} {
			word, err := code.Encode(rows, n)
			wantRows(t, fmt.Sprintf("Encode of no rows for %d", n), word, err, nil, api.ErrArg)
		}
	}
	for _, x := range wrongSides {
		if x.k < 0 || x.k > 1000 {
			continue
		}
		for _, rows := range [][][]byte{filled(x.k, 2, 1), make([][]byte, x.k), append(filled(max(x.k, 1)-1, 1, 1), []byte{1, 2})[:x.k]} {
			word, err := code.Encode(rows, x.n)
			wantRows(t, fmt.Sprintf("Encode of %d rows for %d", x.k, x.n), word, err, nil, x.want)
		}
	}
	for _, x := range wrongRows {
		k := len(x.rows)
		for _, n := range []int{k, 32} {
			word, err := code.Encode(x.rows, n)
			wantRows(t, fmt.Sprintf("Encode for %d of %s", n, x.what), word, err, nil, x.want)
		}
		for n, want := range map[int]api.Errno{k - 1: api.ErrArg, math.MinInt: api.ErrArg, 33: api.ErrLong, math.MaxInt: api.ErrLong} {
			word, err := code.Encode(x.rows, n)
			wantRows(t, fmt.Sprintf("Encode for %d of %s", n, x.what), word, err, nil, want)
		}
	}
}

// P3.3 and P3.5: all choices of shards of small words, fewer than k and more, in some order; each that is enough gives the data and each shard.
func TestAllChoices(t *testing.T) {
	dice := newDice()
	eachPair(7, func(k, n int) {
		word := polynomialWord(dice, k, n, 3)
		for bits := range uint(1) << n {
			at := subset(bits)
			dice.Shuffle(len(at), func(i, j int) { at[i], at[j] = at[j], at[i] })
			what := fmt.Sprintf("of %d and %d, shards %v", k, n, at)
			data, err := code.Decode(k, n, chosen(word, at), at)
			if len(at) < k {
				wantRows(t, "Decode "+what, data, err, nil, api.ErrFew)
				continue
			}
			wantRows(t, "Decode "+what, data, err, word[:k], api.OK)
			for want := range n {
				row, err := code.Rebuild(k, n, chosen(word, at), at, want)
				wantRow(t, fmt.Sprintf("Rebuild %s, shard %d", what, want), row, err, word[want], api.OK)
			}
		}
	})
}

// P3.3: every order in which some shards can stand.
func TestDecodeEveryOrder(t *testing.T) {
	word := polynomialWord(newDice(), 3, 9, 4)
	for _, some := range [][]int{{0, 1, 2}, {8, 2, 5}, {1, 3, 4, 7}, {8, 7, 6, 5, 4}} {
		visitOrders(some, len(some), func(at []int) {
			data, err := code.Decode(3, 9, chosen(word, at), at)
			wantRows(t, fmt.Sprintf("Decode of shards %v", at), data, err, word[:3], api.OK)
		})
	}
}

// visitOrders goes through all orders of the first m numbers.
func visitOrders(at []int, m int, visit func([]int)) {
	if m == 0 {
		visit(at)
		return
	}
	for i := range m {
		at[i], at[m-1] = at[m-1], at[i]
		visitOrders(at, m-1, visit)
		at[i], at[m-1] = at[m-1], at[i]
	}
}

// P3.3 to P3.5: every k and n; the last k shards, some k of them, some more, and all.
func TestEveryPair(t *testing.T) {
	dice := newDice()
	eachPair(api.MaxSide, func(k, n int) {
		word := polynomialWord(dice, k, n, 2)
		last := numbersTo(n)[n-k:]
		for _, at := range [][]int{last, dice.Perm(n)[:k], dice.Perm(n)[:k+dice.IntN(n-k+1)], dice.Perm(n)} {
			what := fmt.Sprintf("of %d and %d, shards %v", k, n, at)
			data, err := code.Decode(k, n, chosen(word, at), at)
			wantRows(t, "Decode "+what, data, err, word[:k], api.OK)
			want := dice.IntN(n)
			row, err := code.Rebuild(k, n, chosen(word, at), at, want)
			wantRow(t, fmt.Sprintf("Rebuild %s, shard %d", what, want), row, err, word[want], api.OK)
		}
	})
}

// P3.3 and P3.4: lengths of rows, none of them and the greatest one too.
func TestDecodeLengths(t *testing.T) {
	dice := newDice()
	for _, length := range []int{0, 1, 2, 95, 96, 255, 256, 257, 1000, api.MaxVector - 1, api.MaxVector} {
		word := definedWord(someRows(dice, 2, length), 5)
		for _, at := range [][]int{{0, 1}, {4, 2}, {3, 0, 4}, {4, 3, 2, 1, 0}} {
			what := fmt.Sprintf("of rows of %d, shards %v", length, at)
			data, err := code.Decode(2, 5, chosen(word, at), at)
			wantRows(t, "Decode "+what, data, err, word[:2], api.OK)
			row, err := code.Rebuild(2, 5, chosen(word, at), at, 3)
			wantRow(t, "Rebuild "+what, row, err, word[3], api.OK)
		}
	}
}

// wantFault holds Decode's error against the one that is asked for, and Rebuild's, which tells it whatever shard is wanted.
func wantFault(t *testing.T, what string, k, n int, shards [][]byte, at []int, want api.Errno) {
	t.Helper()
	data, err := code.Decode(k, n, shards, at)
	wantRows(t, "Decode of "+what, data, err, nil, want)
	for _, number := range []int{0, n - 1, n, -1, math.MinInt, math.MaxInt} {
		row, err := code.Rebuild(k, n, shards, at, number)
		wantRow(t, fmt.Sprintf("Rebuild of %s, shard %d", what, number), row, err, nil, want)
	}
}

// P3.3 and P3.4: k and n are told ahead of all else.
func TestDecodeSides(t *testing.T) {
	for _, x := range wrongSides {
		what := fmt.Sprintf("%d and %d", x.k, x.n)
		wantFault(t, what, x.k, x.n, filled(2, 2, 1), []int{0, 1}, x.want)
		wantFault(t, what+", no shards", x.k, x.n, nil, nil, x.want)
		wantFault(t, what+", not as many shards as numbers", x.k, x.n, filled(2, 2, 1), []int{0}, x.want)
		wantFault(t, what+", a number twice", x.k, x.n, filled(2, 2, 1), []int{0, 0}, x.want)
		wantFault(t, what+", wrong numbers", x.k, x.n, filled(2, 2, 1), []int{-1, math.MaxInt}, x.want)
		wantFault(t, what+", rows not of one length", x.k, x.n, [][]byte{{1}, {}}, []int{0, 1}, x.want)
	}
}

// P3.3 and P3.4: not as many shards as numbers, which is told ahead of what is wrong with either.
func TestDecodeUnevenLists(t *testing.T) {
	for shards := range 7 {
		for numbers := range 7 {
			if shards == numbers {
				continue
			}
			what := fmt.Sprintf("%d shards and %d numbers", shards, numbers)
			wantFault(t, what, 2, 6, filled(shards, 2, 1), numbersTo(numbers), api.ErrShape)
			wantFault(t, what+" that are 0", 2, 6, filled(shards, 2, 1), make([]int, numbers), api.ErrShape)
			wantFault(t, what+", fewer than k", 6, 6, filled(shards, 2, 1), numbersTo(numbers), api.ErrShape)
			wantFault(t, what+" below 0", 2, 6, filled(shards, 2, 1), slices.Repeat([]int{-1}, numbers), api.ErrShape)
			wantFault(t, what+" that are too long", 2, 6, slices.Repeat([][]byte{make([]byte, api.MaxVector+1)}, shards), numbersTo(numbers), api.ErrShape)
		}
	}
	wantFault(t, "more shards than there can be", 2, 6, filled(1000, 1, 1), numbersTo(6), api.ErrShape)
	wantFault(t, "more numbers than there can be", 2, 6, filled(6, 1, 1), numbersTo(1000), api.ErrShape)
}

// P3.3 and P3.4: numbers that are none, wherever they stand, are told ahead of ErrFew and of the rows.
func TestDecodeNumbers(t *testing.T) {
	for _, wrong := range []int{-1, -2, -32, -256, math.MinInt, math.MinInt32, 5, 6, 31, 32, 33, 256, 257, 1 << 32, math.MaxInt32, math.MaxInt} {
		for place := range 4 {
			at := []int{0, 1, 2, 3}
			at[place] = wrong
			what := fmt.Sprintf("numbers %v", at)
			wantFault(t, what, 2, 5, filled(4, 2, 1), at, api.ErrArg)
			wantFault(t, what+", fewer than k", 5, 5, filled(4, 2, 1), at, api.ErrArg)
			wantFault(t, what+", a row that is too long", 2, 5, filled(4, api.MaxVector+1, 1), at, api.ErrArg)
			wantFault(t, what+", rows not of one length", 2, 5, [][]byte{{1}, {}, {1}, {1}}, at, api.ErrArg)
		}
	}
	wantFault(t, "a number of n", 1, 1, filled(1, 1, 1), []int{1}, api.ErrArg)
	wantFault(t, "a number of MaxSide", 1, 32, filled(1, 1, 1), []int{32}, api.ErrArg)
}

// P3.3 and P3.4: a number that stands twice, with the same shard or with another one, is told ahead of ErrFew and of the rows.
func TestDecodeTwice(t *testing.T) {
	word := polynomialWord(newDice(), 2, 6, 2)
	for i := range 5 {
		for j := range 5 {
			if i == j {
				continue
			}
			at := []int{5, 4, 3, 2, 1}
			at[i] = at[j]
			what := fmt.Sprintf("numbers %v", at)
			wantFault(t, what, 2, 6, chosen(word, at), at, api.ErrArg)
			wantFault(t, what+", unlike shards", 2, 6, word[:5], at, api.ErrArg)
			wantFault(t, what+", fewer than k", 6, 6, chosen(word, at), at, api.ErrArg)
			wantFault(t, what+", rows not of one length", 2, 6, [][]byte{{1}, {}, {1}, {1}, {1}}, at, api.ErrArg)
		}
	}
	for _, number := range []int{0, 1, 30, 31} {
		wantFault(t, "two shards of one number", 2, 32, filled(2, 1, 1), []int{number, number}, api.ErrArg)
		wantFault(t, "33 shards", 2, 32, filled(33, 1, 1), append(numbersTo(32), number), api.ErrArg)
	}
	wantFault(t, "a great many shards", 1, 32, make([][]byte, 100000), make([]int, 100000), api.ErrArg)
}

// P3.3 and P3.4: fewer shards than k, which is told ahead of the rows.
func TestDecodeFew(t *testing.T) {
	for k := 1; k <= api.MaxSide; k++ {
		for count := range k {
			wantFault(t, fmt.Sprintf("%d shards of %d", count, k), k, api.MaxSide, filled(count, 2, 1), numbersTo(count), api.ErrFew)
		}
	}
	wantFault(t, "nil lists", 1, 1, nil, nil, api.ErrFew)
	for _, x := range wrongRows {
		count := len(x.rows)
		wantFault(t, "few shards with "+x.what, min(count+1, 32), 32, x.rows[:min(count, 31)], numbersTo(min(count, 31)), api.ErrFew)
	}
}

// P3.3 and P3.4: rows that may not be, those of the data's numbers and others, also behind the first k.
func TestDecodeRows(t *testing.T) {
	dice := newDice()
	for _, x := range wrongRows {
		count := len(x.rows)
		for k := 1; k <= count; k++ {
			wantFault(t, fmt.Sprintf("%d of 32 with %s", k, x.what), k, 32, x.rows, numbersTo(count), x.want)
			wantFault(t, fmt.Sprintf("%d of 32, in some order, with %s", k, x.what), k, 32, x.rows, dice.Perm(32)[:count], x.want)
		}
	}
	word := polynomialWord(dice, 2, 6, 4)
	word[5] = word[5][:3]
	wantFault(t, "a last shard that was cut", 2, 6, word, numbersTo(6), api.ErrShape)
	word = filled(6, 3, 1)
	word[4][0], word[5] = 2, nil
	wantFault(t, "shards of no word and one without bytes", 2, 6, word, numbersTo(6), api.ErrShape)
	word[5] = make([]byte, api.MaxVector+1)
	wantFault(t, "shards of no word and one that is too long", 2, 6, word, numbersTo(6), api.ErrLong)
}

// P3.4: want below 0 and of n, where Decode has nothing to tell.
func TestRebuildWant(t *testing.T) {
	eachPair(9, func(k, n int) {
		word := polynomialWord(newDice(), k, n, 2)
		for _, want := range []int{-1, -2, -n, math.MinInt, n, n + 1, 32, 256, 256 + n - 1, 1 << 32, math.MaxInt} {
			row, err := code.Rebuild(k, n, word, numbersTo(n), want)
			wantRow(t, fmt.Sprintf("Rebuild of %d and %d, shard %d", k, n, want), row, err, nil, api.ErrArg)
		}
	})
	row, err := code.Rebuild(1, 32, filled(1, 1, 7), []int{31}, 32)
	wantRow(t, "Rebuild of the shard 32", row, err, nil, api.ErrArg)
}

// spoil changes one column of each of these shards.
func spoil(dice *rand.Rand, word [][]byte, at []int) [][]byte {
	spoilt := copied(word)
	for _, number := range at {
		spoilt[number][dice.IntN(len(spoilt[number]))] ^= byte(1 + dice.UintN(255))
	}
	return spoilt
}

// P3.5: each choice of one to n - k spoilt shards, among all n, in some order.
func TestSpoiltShards(t *testing.T) {
	dice := newDice()
	eachPair(8, func(k, n int) {
		word := polynomialWord(dice, k, n, 3)
		for bits := range uint(1) << n {
			wrong := subset(bits)
			if len(wrong) == 0 || len(wrong) > n-k {
				continue
			}
			at := dice.Perm(n)
			what := fmt.Sprintf("%d and %d, spoilt %v", k, n, wrong)
			wantFault(t, what, k, n, chosen(spoil(dice, word, wrong), at), at, api.ErrWord)
		}
	})
}

// P3.5: spoilt shards of great words.
func TestSpoiltGreatWords(t *testing.T) {
	dice := newDice()
	eachPair(api.MaxSide, func(k, n int) {
		if k == n {
			return
		}
		word := polynomialWord(dice, k, n, 2)
		for _, count := range []int{1, 1 + dice.IntN(n-k), n - k} {
			at := dice.Perm(n)
			shards := chosen(spoil(dice, word, at[:count]), at)
			data, err := code.Decode(k, n, shards, at)
			wantRows(t, fmt.Sprintf("Decode of %d and %d, spoilt %v", k, n, at[:count]), data, err, nil, api.ErrWord)
		}
	})
}

// P3.3: one shard more than k tells one that was spoilt, whichever it is and in whatever column; k shards are always of a word.
func TestOneMoreShard(t *testing.T) {
	dice := newDice()
	for _, length := range []int{1, 2, 96, 257} {
		word := polynomialWord(dice, 3, 7, length)
		for round := range 40 {
			at := dice.Perm(7)[:4]
			spoilt := copied(word)
			column := []int{0, length - 1, dice.IntN(length)}[round%3]
			spoilt[at[round%4]][column] ^= 1 << (round % 8)
			wantFault(t, fmt.Sprintf("shards %v", at), 3, 7, chosen(spoilt, at), at, api.ErrWord)
			data, err := code.Decode(3, 7, chosen(spoilt, at[:3]), at[:3])
			if err != api.OK || len(data) != 3 || !same(chosen(definedWord(data, 7), at[:3]), chosen(spoilt, at[:3])) {
				t.Errorf("Decode of some rows at %v: %s %v", at[:3], shown(data), err)
			}
		}
	}
}

// P3.3: any k rows are shards of a word; so are n rows of another word, though more than n - k of them are not the first one's.
func TestAnotherWord(t *testing.T) {
	dice := newDice()
	eachPair(12, func(k, n int) {
		word := polynomialWord(dice, k, n, 2)
		other := copied(word)
		other[dice.IntN(k)][1] ^= 7
		other = definedWord(other[:k], n)
		data, err := code.Decode(k, n, other, numbersTo(n))
		wantRows(t, "Decode of another word", data, err, other[:k], api.OK)
		rows, at := someRows(dice, k, 2), dice.Perm(n)[:k]
		data, err = code.Decode(k, n, rows, at)
		if err != api.OK || len(data) != k || !same(chosen(definedWord(data, n), at), rows) {
			t.Errorf("Decode of some rows at %v: %s %v", at, shown(data), err)
		}
	})
}

// P3.6: words of unlike data differ in at least n - k + 1 shards.
func TestDistance(t *testing.T) {
	dice := newDice()
	for round := range 3000 {
		n := 1 + round%12
		k := 1 + dice.IntN(n)
		data := someRows(dice, k, 2)
		other := copied(data)
		for range 1 + dice.IntN(k) {
			other[dice.IntN(k)][dice.IntN(2)] = byte(dice.UintN(256))
		}
		if same(data, other) {
			continue
		}
		a, b := encoded(t, data, n), encoded(t, other, n)
		unlike := 0
		for i := range a {
			if !bytes.Equal(a[i], b[i]) {
				unlike++
			}
		}
		if unlike < n-k+1 {
			t.Errorf("words of %v and %v with %d shards differ in %d", data, other, n, unlike)
		}
	}
}

// P3.6: all data of two numbers of one word, against one another: unlike data have at most k - 1 shards alike.
func TestDistanceOfAll(t *testing.T) {
	rows := make([][]byte, 2)
	for a := range 256 {
		for b := range 256 {
			rows[0], rows[1] = append(rows[0], byte(a)), append(rows[1], byte(b))
		}
	}
	word := encoded(t, rows, 5)
	for i := range 5 {
		for j := range i {
			var met [1 << 16]bool
			for column := range rows[0] {
				pair := int(word[i][column])<<8 | int(word[j][column])
				if met[pair] {
					t.Fatalf("the shards %d and %d are alike for unlike data", j, i)
				}
				met[pair] = true
			}
		}
	}
}

// P3.6: the word of a sum is the sum of the words, with multiples too.
func TestWordOfSum(t *testing.T) {
	dice := newDice()
	plus := func(a, b [][]byte, c byte) [][]byte {
		sum := make([][]byte, len(a))
		for i := range a {
			sum[i], _ = matrix.Plus(a[i], b[i], c)
		}
		return sum
	}
	eachPair(16, func(k, n int) {
		a, b := someRows(dice, k, 5), someRows(dice, k, 5)
		for _, c := range []byte{1, byte(dice.UintN(256))} {
			word, err := code.Encode(plus(a, b, c), n)
			wantRows(t, "word of a sum", word, err, plus(encoded(t, a, n), encoded(t, b, n), c), api.OK)
		}
	})
}

func cut(rows [][]byte, from, to int) [][]byte {
	c := make([][]byte, len(rows))
	for i, row := range rows {
		c[i] = row[from:to]
	}
	return c
}

// P3.6: a word cut behind a column, both pieces, also where rows are so long that they may be gone through in another way.
func TestCutWords(t *testing.T) {
	dice := newDice()
	for _, length := range []int{1, 7, 300} {
		for _, x := range [][2]int{{1, 3}, {2, 3}, {3, 5}, {8, 15}, {5, 5}} {
			data := someRows(dice, x[0], length)
			word := encoded(t, data, x[1])
			at := dice.Perm(x[1])[:x[0]]
			for column := range length + 1 {
				for _, piece := range [][2]int{{0, column}, {column, length}} {
					part, err := code.Encode(cut(data, piece[0], piece[1]), x[1])
					wantRows(t, "word of cut data", part, err, cut(word, piece[0], piece[1]), api.OK)
				}
				back, err := code.Decode(x[0], x[1], chosen(cut(word, 0, column), at), at)
				wantRows(t, "data of a cut word", back, err, cut(data, 0, column), api.OK)
			}
		}
	}
}

// roomy is rows side by side in one list with room behind them, and that list.
func roomy(a [][]byte) (rows [][]byte, all []byte) {
	for _, row := range a {
		all = append(append(all, row...), 0xA5, 0x5A)
	}
	rows = make([][]byte, 0, len(a)+2)
	at := 0
	for _, row := range a {
		rows = append(rows, all[at:at+len(row)])
		at += len(row) + 2
	}
	return rows, all
}

// calls are all calls on shards, each as the rows that it answers.
var calls = map[string]func(k, n int, rows [][]byte, at []int) [][]byte{
	"Table": func(k, n int, rows [][]byte, at []int) [][]byte {
		m, _ := code.Table(k, n)
		return m
	},
	"Encode": func(k, n int, rows [][]byte, at []int) [][]byte {
		word, _ := code.Encode(rows, n)
		return word
	},
	"Decode": func(k, n int, rows [][]byte, at []int) [][]byte {
		data, _ := code.Decode(k, n, rows, at)
		return data
	},
	"Rebuild": func(k, n int, rows [][]byte, at []int) [][]byte {
		row, _ := code.Rebuild(k, n, rows, at, 0)
		return [][]byte{row}
	},
	"Rebuild of a shard that is there": func(k, n int, rows [][]byte, at []int) [][]byte {
		row, _ := code.Rebuild(k, n, rows, at, at[0])
		return [][]byte{row}
	},
}

// visitCalls goes through all calls, with data, with shards in falling order, with all of them, and with shards of no word.
func visitCalls(visit func(name string, call func(rows [][]byte, at []int) [][]byte, rows [][]byte, at []int)) {
	dice := newDice()
	for name, call := range calls {
		for _, x := range [][2]int{{1, 1}, {1, 3}, {2, 4}, {3, 3}, {4, 7}} {
			k, n := x[0], x[1]
			word := polynomialWord(dice, k, n, 3)
			bound := func(rows [][]byte, at []int) [][]byte { return call(k, n, rows, at) }
			falling := numbersTo(n)
			slices.Reverse(falling)
			visit(name, bound, word[:k], numbersTo(k))
			visit(name, bound, chosen(word, falling[:k]), falling[:k])
			visit(name, bound, chosen(word, falling), falling)
			visit(name, bound, someRows(dice, n, 3), falling)
		}
	}
}

func overwrite(row []byte) {
	row = row[:cap(row)]
	for i := range row {
		row[i] ^= 0xFF
	}
}

// R3: no argument is changed, nor the room behind it, by the call or by what is written into its answer.
func TestArgumentsStay(t *testing.T) {
	visitCalls(func(name string, call func([][]byte, []int) [][]byte, given [][]byte, numbers []int) {
		rows, all := roomy(given)
		at := append(slices.Clone(numbers), -7, -8)[:len(numbers)]
		wantAll, wantRows, wantAt := bytes.Clone(all), copied(rows), slices.Clone(at[:len(at)+2])
		for _, row := range call(rows, at) {
			overwrite(row)
		}
		if !bytes.Equal(all, wantAll) || !same(rows, wantRows) {
			t.Errorf("%s of %d rows changed a row", name, len(rows))
		}
		if !slices.EqualFunc(rows[len(rows):len(rows)+2], make([][]byte, 2), bytes.Equal) {
			t.Errorf("%s of %d rows changed the room behind them", name, len(rows))
		}
		if !slices.Equal(at[:len(at)+2], wantAt) {
			t.Errorf("%s of %d rows changed their numbers", name, len(rows))
		}
	})
}

// R2 and R3: no two rows of an answer share memory, spare room too; what is written into an answer or, later on, into an argument shows in no other answer.
func TestAnswersAreNew(t *testing.T) {
	visitCalls(func(name string, call func([][]byte, []int) [][]byte, rows [][]byte, at []int) {
		rows = copied(rows)
		answer := call(rows, at)
		want, kept := copied(answer), call(rows, at)
		for i, row := range answer {
			overwrite(row)
			if !same(answer[i+1:], want[i+1:]) {
				t.Errorf("%s of %d rows: row %d reaches into another one", name, len(rows), i)
			}
		}
		if !same(call(rows, at), want) {
			t.Errorf("%s of %d rows answers otherwise once its answer was written into", name, len(rows))
		}
		for _, row := range rows {
			overwrite(row)
		}
		if !same(kept, want) {
			t.Errorf("%s of %d rows answers what an argument holds", name, len(rows))
		}
	})
}

// R3: rows that are one list, as shards and as data.
func TestSharedRows(t *testing.T) {
	row := []byte{1, 2, 3}
	for n := 1; n <= api.MaxSide; n++ {
		rows := slices.Repeat([][]byte{row}, n)
		word, err := code.Encode(rows, api.MaxSide)
		wantRows(t, "Encode of one row n times", word, err, slices.Repeat([][]byte{row}, api.MaxSide), api.OK)
		data, err := code.Decode(1, n, rows, numbersTo(n))
		wantRows(t, "Decode of one row n times", data, err, [][]byte{row}, api.OK)
	}
}
