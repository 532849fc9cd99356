package matrix_test

import (
	"bytes"
	"fmt"
	"math"
	"math/rand/v2"
	"slices"
	"testing"

	"tabulary/api"
	"tabulary/gf"
	"tabulary/matrix"
)

func newDice() *rand.Rand { return rand.New(rand.NewPCG(2, 6)) }

func someRow(dice *rand.Rand, n int) []byte {
	row := make([]byte, n)
	for i := range row {
		row[i] = byte(dice.UintN(256))
	}
	return row
}

func someMatrix(dice *rand.Rand, rows, columns int) [][]byte {
	m := make([][]byte, rows)
	for i := range m {
		m[i] = someRow(dice, columns)
	}
	return m
}

// sparseMatrix has many noughts, so that rows often hang on others, and numbers are not where they are looked for first.
func sparseMatrix(dice *rand.Rand, rows, columns int) [][]byte {
	m := someMatrix(dice, rows, columns)
	for _, row := range m {
		for j := range row {
			switch dice.UintN(4) {
			case 0, 1:
				row[j] = 0
			case 2:
				row[j] = 1
			}
		}
	}
	return m
}

func filled(rows, columns int, c byte) [][]byte {
	m := make([][]byte, rows)
	for i := range m {
		m[i] = bytes.Repeat([]byte{c}, columns)
	}
	return m
}

func same(a, b [][]byte) bool { return slices.EqualFunc(a, b, bytes.Equal) }

func copied(a [][]byte) [][]byte {
	c := make([][]byte, len(a))
	for i := range a {
		c[i] = bytes.Clone(a[i])
	}
	return c
}

func width(a [][]byte) int {
	if len(a) == 0 {
		return 0
	}
	return len(a[0])
}

// definedMul is P2.3 by the letter, number by number.
func definedMul(a, b [][]byte) [][]byte {
	p := filled(len(a), width(b), 0)
	for i := range p {
		for j := range p[i] {
			for t := range b {
				p[i][j] = gf.Add(p[i][j], gf.Mul(a[i][t], b[t][j]))
			}
		}
	}
	return p
}

func definedOne(n int) [][]byte {
	m := filled(n, n, 0)
	for i := range m {
		m[i][i] = 1
	}
	return m
}

// without is a without its row i and its column j.
func without(a [][]byte, i, j int) [][]byte {
	m := slices.Delete(copied(a), i, i+1)
	for t := range m {
		m[t] = slices.Delete(m[t], j, j+1)
	}
	return m
}

// determinant goes along the first row; signs are none in this field.
func determinant(a [][]byte) byte {
	if len(a) == 0 {
		return 1
	}
	var d byte
	for j, c := range a[0] {
		d = gf.Add(d, gf.Mul(c, determinant(without(a, 0, j))))
	}
	return d
}

// adjoint is the inverse by determinants, of a matrix whose own one is not 0.
func adjoint(t *testing.T, a [][]byte) [][]byte {
	t.Helper()
	d, err := gf.Inverse(determinant(a))
	if err != api.OK {
		t.Fatalf("%v has no inverse", a)
	}
	m := filled(len(a), len(a), 0)
	for i := range m {
		for j := range m[i] {
			m[i][j] = gf.Mul(d, determinant(without(a, j, i)))
		}
	}
	return m
}

// choices are all lists of k rising numbers below n.
func choices(n, k int) [][]int {
	if k == 0 {
		return [][]int{nil}
	}
	var all [][]int
	for last := k - 1; last < n; last++ {
		for _, c := range choices(last, k-1) {
			all = append(all, append(slices.Clone(c), last))
		}
	}
	return all
}

// minorRank is the side of the greatest square of chosen rows and columns whose determinant is not 0.
func minorRank(a [][]byte) int {
	for k := min(len(a), width(a)); k > 0; k-- {
		for _, rows := range choices(len(a), k) {
			for _, cols := range choices(width(a), k) {
				m := filled(k, k, 0)
				for i, r := range rows {
					for j, c := range cols {
						m[i][j] = a[r][c]
					}
				}
				if determinant(m) != 0 {
					return k
				}
			}
		}
	}
	return 0
}

func wantMatrix(t *testing.T, what string, got [][]byte, err api.Errno, want [][]byte, wantErr api.Errno) {
	t.Helper()
	if err != wantErr || !same(got, want) {
		t.Errorf("%s: %s %v, not %s %v", what, shown(got), err, shown(want), wantErr)
	}
}

// shown is a matrix, or of a great one only its shape.
func shown(a [][]byte) string {
	if len(a)*width(a) > 64 {
		return fmt.Sprintf("(%d rows of %d)", len(a), width(a))
	}
	return fmt.Sprint(a)
}

// P2.1 to P2.5: the chapter's table.
func TestExamples(t *testing.T) {
	row, err := matrix.Plus([]byte{1, 2, 3}, []byte{4, 5, 6}, 2)
	wantMatrix(t, "Plus", [][]byte{row}, err, [][]byte{{9, 8, 15}}, api.OK)
	for _, x := range []struct {
		a, b []byte
		want byte
		err  api.Errno
	}{
		{[]byte{1, 2}, []byte{3, 128}, 30, api.OK},
		{nil, nil, 0, api.OK},
		{[]byte{1}, []byte{1, 2}, 0, api.ErrShape},
	} {
		if n, err := matrix.Dot(x.a, x.b); n != x.want || err != x.err {
			t.Errorf("Dot(%v, %v): %d %v", x.a, x.b, n, err)
		}
	}
	m, err := matrix.Mul([][]byte{{1, 1}, {0, 1}}, [][]byte{{5}, {3}})
	wantMatrix(t, "Mul", m, err, [][]byte{{6}, {3}}, api.OK)
	for _, x := range []struct {
		a, want [][]byte
		err     api.Errno
	}{
		{[][]byte{{2}}, [][]byte{{142}}, api.OK},
		{[][]byte{{0, 1}, {1, 0}}, [][]byte{{0, 1}, {1, 0}}, api.OK},
		{[][]byte{{1, 1}, {1, 1}}, nil, api.ErrSingular},
		{[][]byte{{1, 2}}, nil, api.ErrShape},
	} {
		m, err := matrix.Inverse(x.a)
		wantMatrix(t, fmt.Sprintf("Inverse(%v)", x.a), m, err, x.want, x.err)
	}
	wantRank(t, [][]byte{{1, 2}, {2, 4}}, 1)
	wantRank(t, [][]byte{{0, 0}}, 0)
	m, err = matrix.Turned([][]byte{{1, 2}, {3, 4}})
	wantMatrix(t, "Turned", m, err, [][]byte{{1, 3}, {2, 4}}, api.OK)
}

// lengths of rows at which another way of multiplying may begin, or a bound is.
var lengths = []int{0, 1, 2, 31, 32, 33, 95, 96, 127, 128, 129, 255, 256, 257, 258, 1000, 65536, api.MaxVector - 1, api.MaxVector}

// P2.1: Plus's numbers, each against chapter 1's.
func TestPlusNumbers(t *testing.T) {
	dice := newDice()
	for _, n := range lengths {
		a, b := someRow(dice, n), someRow(dice, n)
		for _, c := range []byte{0, 1, 2, 3, 29, 128, 142, 254, 255} {
			sum, err := matrix.Plus(a, b, c)
			if err != api.OK || len(sum) != n {
				t.Fatalf("Plus of rows of %d: %d numbers, %v", n, len(sum), err)
			}
			for i := range sum {
				if want := gf.Add(a[i], gf.Mul(c, b[i])); sum[i] != want {
					t.Fatalf("Plus of rows of %d, times %d, at %d: %d, not %d", n, c, i, sum[i], want)
				}
			}
		}
	}
}

// P2.1: all products that there are, in short rows and in long ones.
func TestPlusAllProducts(t *testing.T) {
	all := make([]byte, 512)
	for i := range all {
		all[i] = byte(i)
	}
	for _, n := range []int{256, 512} {
		zero := make([]byte, n)
		for c := range 256 {
			sum, err := matrix.Plus(zero, all[:n], byte(c))
			if err != api.OK || len(sum) != n {
				t.Fatalf("Plus of %d, times %d: %d numbers, %v", n, c, len(sum), err)
			}
			for i, got := range sum {
				if want := gf.Mul(byte(c), byte(i)); got != want {
					t.Fatalf("%d times %d: %d, not %d", c, byte(i), got, want)
				}
			}
		}
	}
}

// P2.1: Dot's sum against chapter 1's.
func TestDotNumbers(t *testing.T) {
	dice := newDice()
	for _, n := range lengths {
		a, b := someRow(dice, n), someRow(dice, n)
		var want byte
		for i := range a {
			want = gf.Add(want, gf.Mul(a[i], b[i]))
		}
		if got, err := matrix.Dot(a, b); got != want || err != api.OK {
			t.Errorf("Dot of rows of %d: %d %v, not %d", n, got, err, want)
		}
	}
	for a := range 256 {
		for b := range 256 {
			want := gf.Mul(byte(a), byte(b))
			if got, err := matrix.Dot([]byte{byte(a)}, []byte{byte(b)}); got != want || err != api.OK {
				t.Fatalf("Dot(%d, %d): %d %v, not %d", a, b, got, err, want)
			}
		}
	}
}

// P2.1: lengths that do not fit, and too great ones, which are told first.
func TestRowErrors(t *testing.T) {
	const most = api.MaxVector
	for _, x := range []struct {
		a, b int
		want api.Errno
	}{
		{0, 0, api.OK}, {most, most, api.OK},
		{0, 1, api.ErrShape}, {1, 0, api.ErrShape}, {2, 1, api.ErrShape}, {3, 4, api.ErrShape},
		{most, 0, api.ErrShape}, {0, most, api.ErrShape}, {most - 1, most, api.ErrShape}, {most, most - 1, api.ErrShape},
		{most + 1, most + 1, api.ErrLong}, {most + 1, most, api.ErrLong}, {most, most + 1, api.ErrLong},
		{most + 1, 0, api.ErrLong}, {0, most + 1, api.ErrLong}, {1, 2 * most, api.ErrLong}, {2 * most, 1, api.ErrLong},
	} {
		a, b := bytes.Repeat([]byte{3}, x.a), bytes.Repeat([]byte{5}, x.b)
		for _, c := range []byte{0, 1, 7} {
			sum, err := matrix.Plus(a, b, c)
			if err != x.want || err != api.OK && len(sum) != 0 || err == api.OK && len(sum) != x.a {
				t.Errorf("Plus of %d and %d numbers: %d numbers, %v, not %v", x.a, x.b, len(sum), err, x.want)
			}
		}
		n, err := matrix.Dot(a, b)
		if err != x.want || err != api.OK && n != 0 {
			t.Errorf("Dot of %d and %d numbers: %d %v, not %v", x.a, x.b, n, err, x.want)
		}
	}
}

// P2.2: all sides that there are, and what is beyond them.
func TestOne(t *testing.T) {
	for n := 0; n <= api.MaxSide; n++ {
		m, err := matrix.One(n)
		wantMatrix(t, fmt.Sprintf("One(%d)", n), m, err, definedOne(n), api.OK)
	}
	for n, want := range map[int]api.Errno{
		-1: api.ErrArg, -2: api.ErrArg, -33: api.ErrArg, math.MinInt: api.ErrArg, math.MinInt32: api.ErrArg,
		api.MaxSide + 1: api.ErrLong, 256: api.ErrLong, 1 << 32: api.ErrLong, math.MaxInt32: api.ErrLong, math.MaxInt: api.ErrLong,
	} {
		m, err := matrix.One(n)
		wantMatrix(t, fmt.Sprintf("One(%d)", n), m, err, nil, want)
	}
}

// P2.3: products against the promise's words, of all small shapes and of great ones.
func TestMulNumbers(t *testing.T) {
	dice := newDice()
	shapes := [][3]int{
		{1, 32, 1}, {32, 1, 32}, {32, 32, 32}, {31, 32, 33}, {32, 32, 256}, {32, 32, 257}, {3, 2, 1000},
		{32, 3, 65536}, {2, 32, api.MaxVector},
	}
	for rows := 1; rows <= 5; rows++ {
		for inner := 1; inner <= 5; inner++ {
			for columns := 0; columns <= 5; columns++ {
				shapes = append(shapes, [3]int{rows, inner, columns})
			}
		}
	}
	for _, s := range shapes {
		for _, some := range []func(*rand.Rand, int, int) [][]byte{someMatrix, sparseMatrix} {
			a, b := some(dice, s[0], s[1]), some(dice, s[1], s[2])
			m, err := matrix.Mul(a, b)
			wantMatrix(t, fmt.Sprintf("Mul of %v", s), m, err, definedMul(a, b), api.OK)
		}
	}
}

// P2.3: matrices without rows, and without columns.
func TestMulOfNothing(t *testing.T) {
	none, hollow := [][]byte{}, [][]byte{{}, nil, {}}
	for _, x := range []struct {
		what       string
		a, b, want [][]byte
		err        api.Errno
	}{
		{"no rows, no rows", none, nil, nil, api.OK},
		{"no rows, one row", none, [][]byte{{1}}, nil, api.ErrShape},
		{"no rows, rows without columns", none, hollow, nil, api.ErrShape},
		{"rows without columns, no rows", hollow, none, filled(3, 0, 0), api.OK},
		{"rows without columns, rows without columns", hollow, hollow, nil, api.ErrShape},
		{"rows without columns, one row", hollow, [][]byte{{1, 2}}, nil, api.ErrShape},
		{"three columns, rows without columns", [][]byte{{1, 2, 3}, {4, 5, 6}}, hollow, filled(2, 0, 0), api.OK},
		{"one column, no rows", [][]byte{{1}}, none, nil, api.ErrShape},
		{"32 rows without columns, no rows", filled(32, 0, 0), none, filled(32, 0, 0), api.OK},
	} {
		m, err := matrix.Mul(x.a, x.b)
		wantMatrix(t, x.what, m, err, x.want, x.err)
	}
}

// faulty are matrices that are not right, and why.
var faulty = []struct {
	what string
	a    [][]byte
	want api.Errno
}{
	{"33 rows", filled(33, 1, 1), api.ErrLong},
	{"33 rows of 33", filled(33, 33, 1), api.ErrLong},
	{"33 rows without columns", filled(33, 0, 0), api.ErrLong},
	{"33 nil rows", make([][]byte, 33), api.ErrLong},
	{"1000 rows", filled(1000, 2, 1), api.ErrLong},
	{"33 rows not of one length", append(filled(32, 2, 1), []byte{1}), api.ErrLong},
	{"a row that is too long", filled(1, api.MaxVector+1, 1), api.ErrLong},
	{"two rows that are too long", filled(2, api.MaxVector+1, 1), api.ErrLong},
	{"a last row that is too long", append(filled(2, 3, 1), make([]byte, api.MaxVector+1)), api.ErrLong},
	{"a long row behind one of another length", [][]byte{{1}, {1, 2}, make([]byte, api.MaxVector+1)}, api.ErrLong},
	{"a second row that is longer", [][]byte{{1}, {2, 3}}, api.ErrShape},
	{"a second row that is shorter", [][]byte{{1, 2}, {3}}, api.ErrShape},
	{"a second row that is empty", [][]byte{{1}, {}}, api.ErrShape},
	{"a first row that is empty", [][]byte{nil, {1}}, api.ErrShape},
	{"a last row that is shorter", append(filled(31, 32, 1), make([]byte, 31)), api.ErrShape},
	{"a middle row that is longer", [][]byte{{1, 2, 3}, {1, 2, 3, 4}, {5, 6, 7}}, api.ErrShape},
	{"lengths whose sum is a square's", [][]byte{{1, 2, 3}, {1, 2}, {1, 2, 3, 4}}, api.ErrShape},
	{"a second row of the greatest length", [][]byte{{1}, make([]byte, api.MaxVector)}, api.ErrShape},
	{"rows of the greatest length and of one less", [][]byte{make([]byte, api.MaxVector), make([]byte, api.MaxVector-1)}, api.ErrShape},
}

// P2.3 to P2.5: what is told of a matrix that is not right.
func TestFaultyMatrix(t *testing.T) {
	for _, x := range faulty {
		m, err := matrix.Inverse(x.a)
		wantMatrix(t, "Inverse of "+x.what, m, err, nil, x.want)
		m, err = matrix.Turned(x.a)
		wantMatrix(t, "Turned of "+x.what, m, err, nil, x.want)
		if n, err := matrix.Rank(x.a); n != 0 || err != x.want {
			t.Errorf("Rank of %s: %d %v, not %v", x.what, n, err, x.want)
		}
	}
}

// P2.3: errors are told of the first matrix, then of the second, then of both.
func TestMulErrors(t *testing.T) {
	right := map[string][][]byte{"no rows": nil, "one number": {{1}}, "a row of two": {{1, 2}}, "rows without columns": filled(2, 0, 0)}
	for _, x := range faulty {
		for what, b := range right {
			m, err := matrix.Mul(x.a, b)
			wantMatrix(t, x.what+", "+what, m, err, nil, x.want)
			m, err = matrix.Mul(b, x.a)
			wantMatrix(t, what+", "+x.what, m, err, nil, x.want)
		}
		for _, y := range faulty {
			m, err := matrix.Mul(x.a, y.a)
			wantMatrix(t, x.what+", "+y.what, m, err, nil, x.want)
		}
	}
	for rows := range 5 {
		for columns := range 5 {
			a, b := filled(2, columns, 3), filled(rows, 3, 5)
			m, err := matrix.Mul(a, b)
			if columns == rows {
				wantMatrix(t, "shapes that fit", m, err, definedMul(a, b), api.OK)
			} else {
				wantMatrix(t, "shapes that do not fit", m, err, nil, api.ErrShape)
			}
		}
	}
	m, err := matrix.Mul(filled(1, 33, 1), filled(32, 1, 1))
	wantMatrix(t, "more columns than a matrix has rows", m, err, nil, api.ErrShape)
}

// P2.4: no rows, one number, and shapes that are no squares.
func TestInverseEdges(t *testing.T) {
	for _, a := range [][][]byte{nil, {}} {
		m, err := matrix.Inverse(a)
		wantMatrix(t, "Inverse of no rows", m, err, nil, api.OK)
	}
	for c := range 256 {
		m, err := matrix.Inverse([][]byte{{byte(c)}})
		if c == 0 {
			wantMatrix(t, "Inverse of 0", m, err, nil, api.ErrSingular)
			continue
		}
		by, _ := gf.Inverse(byte(c))
		wantMatrix(t, fmt.Sprintf("Inverse of %d", c), m, err, [][]byte{{by}}, api.OK)
	}
	for rows := 1; rows <= 4; rows++ {
		for columns := range 6 {
			if rows != columns {
				m, err := matrix.Inverse(filled(rows, columns, 0))
				wantMatrix(t, fmt.Sprintf("Inverse of %d rows of %d", rows, columns), m, err, nil, api.ErrShape)
			}
		}
	}
	for _, x := range [][2]int{{1, api.MaxVector}, {32, 33}, {32, 31}, {31, 32}, {32, api.MaxVector}} {
		m, err := matrix.Inverse(filled(x[0], x[1], 1))
		wantMatrix(t, fmt.Sprint("Inverse of ", x), m, err, nil, api.ErrShape)
	}
}

// P2.4: against determinants; many of the matrices have a nought where the first number would be looked for.
func TestInverseNumbers(t *testing.T) {
	dice := newDice()
	singular := 0
	for round := range 4000 {
		n := 1 + round%4
		a := sparseMatrix(dice, n, n)
		m, err := matrix.Inverse(a)
		if determinant(a) == 0 {
			singular++
			wantMatrix(t, fmt.Sprintf("Inverse(%v)", a), m, err, nil, api.ErrSingular)
			continue
		}
		wantMatrix(t, fmt.Sprintf("Inverse(%v)", a), m, err, adjoint(t, a), api.OK)
	}
	if singular < 400 || singular > 3600 {
		t.Errorf("of 4000 matrices %d without an inverse", singular)
	}
	for _, a := range [][][]byte{
		{{0, 2}, {3, 0}},
		{{0, 1, 2}, {4, 0, 5}, {7, 9, 0}},
		{{0, 0, 1}, {0, 1, 0}, {1, 0, 0}},
		{{1, 1, 0}, {1, 1, 1}, {0, 1, 1}},
		{{0, 0, 0, 6}, {0, 0, 5, 1}, {0, 4, 1, 1}, {3, 1, 1, 1}},
	} {
		m, err := matrix.Inverse(a)
		wantMatrix(t, fmt.Sprintf("Inverse(%v)", a), m, err, adjoint(t, a), api.OK)
	}
}

// invertible is a product of a matrix with ones and noughts above its diagonal and one below it, with rows changed about.
func invertible(dice *rand.Rand, n int) [][]byte {
	low, high := someMatrix(dice, n, n), someMatrix(dice, n, n)
	for i := range n {
		low[i][i], high[i][i] = 1, byte(1+dice.UintN(255))
		for j := range n {
			if j > i {
				low[i][j] = 0
			} else if j < i {
				high[i][j] = 0
			}
		}
	}
	m := definedMul(low, high)
	dice.Shuffle(n, func(i, j int) { m[i], m[j] = m[j], m[i] })
	return m
}

// P2.4 and P2.6: all sides up to the greatest, both ways round, and back.
func TestInverseOfAllSides(t *testing.T) {
	dice := newDice()
	for n := 1; n <= api.MaxSide; n++ {
		a := invertible(dice, n)
		m, err := matrix.Inverse(a)
		if err != api.OK || len(m) != n || width(m) != n {
			t.Fatalf("Inverse of side %d: %s %v", n, shown(m), err)
		}
		one := definedOne(n)
		if !same(definedMul(a, m), one) || !same(definedMul(m, a), one) {
			t.Errorf("side %d: what Inverse answers is no inverse", n)
		}
		for _, x := range [][2][][]byte{{a, m}, {m, a}} {
			p, err := matrix.Mul(x[0], x[1])
			wantMatrix(t, fmt.Sprintf("side %d: product with the inverse", n), p, err, one, api.OK)
		}
		back, err := matrix.Inverse(m)
		wantMatrix(t, fmt.Sprintf("side %d: inverse of the inverse", n), back, err, a, api.OK)
		wantRank(t, a, n)
		hung := copied(a)
		hung[dice.IntN(n)] = make([]byte, n)
		m, err = matrix.Inverse(hung)
		wantMatrix(t, fmt.Sprintf("side %d with a row of noughts", n), m, err, nil, api.ErrSingular)
		wantRank(t, hung, n-1)
	}
}

func wantRank(t *testing.T, a [][]byte, want int) {
	t.Helper()
	if n, err := matrix.Rank(a); n != want || err != api.OK {
		t.Errorf("Rank of %s: %d %v, not %d", shown(a), n, err, want)
	}
}

// P2.5: rows of noughts, multiples and sums of others, and matrices without a number.
func TestRankEdges(t *testing.T) {
	long := filled(32, api.MaxVector, 0)
	for i, row := range long {
		row[api.MaxVector-1-i] = byte(i + 1)
	}
	for _, x := range []struct {
		a    [][]byte
		want int
	}{
		{nil, 0}, {[][]byte{{}}, 0}, {filled(32, 0, 0), 0}, {filled(32, 32, 0), 0},
		{[][]byte{{0}}, 0}, {[][]byte{{7}}, 1}, {[][]byte{{7}, {9}, {0}, {7}}, 1},
		{[][]byte{{0, 0}, {1, 2}}, 1}, {[][]byte{{1, 2}, {0, 0}}, 1}, {[][]byte{{0, 0, 1}}, 1},
		{[][]byte{{1, 2}, {1, 2}}, 1}, {[][]byte{{1, 2}, {2, 1}}, 2}, {[][]byte{{0, 1}, {1, 0}}, 2},
		{[][]byte{{1, 2, 3}, {4, 5, 6}, {5, 7, 5}}, 2},
		{[][]byte{{1, 2, 3}, {4, 5, 6}, {5, 7, 4}}, 3},
		{[][]byte{{0, 0, 0, 1}, {0, 0, 0, 2}, {0, 0, 3, 0}}, 2},
		{[][]byte{{1, 0}, {0, 1}, {1, 1}, {5, 7}}, 2},
		{[][]byte{{1, 1, 0, 0}, {0, 0, 0, 0}, {1, 1, 0, 5}, {0, 0, 0, 9}}, 2},
		{definedOne(32), 32}, {filled(32, 33, 5), 1}, {filled(32, api.MaxVector, 9), 1}, {long, 32},
		{filled(32, api.MaxVector, 0), 0},
	} {
		wantRank(t, x.a, x.want)
	}
}

// P2.5: against the promise's words, where each row's sums of multiples of two rows ahead can be gone through.
func TestRankBySums(t *testing.T) {
	dice := newDice()
	for range 40 {
		a := sparseMatrix(dice, 3, 3)
		if dice.UintN(2) == 0 {
			a[2], _ = matrix.Plus(a[0], a[1], byte(dice.UintN(256)))
		}
		left := 0
		for i, row := range a {
			if !isSum(row, a[:i]) {
				left++
			}
		}
		wantRank(t, a, left)
	}
}

// isSum tells whether a row is a sum of multiples of those ahead.
func isSum(row []byte, ahead [][]byte) bool {
	if len(ahead) == 0 {
		return bytes.Equal(row, make([]byte, len(row)))
	}
	rest := make([]byte, len(row))
	for c := range 256 {
		for i, b := range ahead[0] {
			rest[i] = gf.Add(row[i], gf.Mul(byte(c), b))
		}
		if isSum(rest, ahead[1:]) {
			return true
		}
	}
	return false
}

// P2.5 and P2.6: against determinants, with more columns than rows and the other way round; so is Rank of Turned.
func TestRankNumbers(t *testing.T) {
	dice := newDice()
	met := map[int]int{}
	for round := range 1500 {
		a := sparseMatrix(dice, 1+round%4, 1+round/4%5)
		if round%2 == 0 {
			// The product of two matrices has no more rank than the inner side.
			inner := 1 + dice.IntN(3)
			a = definedMul(sparseMatrix(dice, len(a), inner), sparseMatrix(dice, inner, width(a)))
		}
		want := minorRank(a)
		met[want]++
		wantRank(t, a, want)
		turned, err := matrix.Turned(a)
		if err != api.OK {
			t.Fatalf("Turned of %v: %v", a, err)
		}
		wantRank(t, turned, want)
	}
	for n := range 5 {
		if met[n] == 0 {
			t.Errorf("no matrix of rank %d was gone through", n)
		}
	}
}

// P2.5: rank by how a great matrix was made.
func TestRankOfGreatMatrices(t *testing.T) {
	dice := newDice()
	for rank := 1; rank <= api.MaxSide; rank++ {
		rows := invertible(dice, api.MaxSide)
		a := definedMul(invertible(dice, api.MaxSide), append(rows[:rank:rank], filled(api.MaxSide-rank, api.MaxSide, 0)...))
		wantRank(t, a, rank)
		_, err := matrix.Inverse(a)
		if (err == api.ErrSingular) != (rank < api.MaxSide) {
			t.Errorf("Inverse of side 32 and rank %d: %v", rank, err)
		}
	}
}

// P2.5: shapes of Turned, and its numbers.
func TestTurned(t *testing.T) {
	dice := newDice()
	for rows := range api.MaxSide + 1 {
		for columns := range api.MaxSide + 1 {
			a := someMatrix(dice, rows, columns)
			m, err := matrix.Turned(a)
			if rows == 0 || columns == 0 {
				wantMatrix(t, fmt.Sprintf("Turned of %d rows of %d", rows, columns), m, err, nil, api.OK)
				continue
			}
			want := filled(columns, rows, 0)
			for i := range want {
				for j := range want[i] {
					want[i][j] = a[j][i]
				}
			}
			wantMatrix(t, fmt.Sprintf("Turned of %d rows of %d", rows, columns), m, err, want, api.OK)
			back, err := matrix.Turned(m)
			wantMatrix(t, "Turned of Turned", back, err, a, api.OK)
		}
	}
	for _, columns := range []int{33, 34, 64, 256, api.MaxVector} {
		for _, rows := range []int{1, 2, 32} {
			m, err := matrix.Turned(filled(rows, columns, 1))
			wantMatrix(t, fmt.Sprintf("Turned of %d rows of %d", rows, columns), m, err, nil, api.ErrLong)
		}
	}
	m, err := matrix.Turned([][]byte{make([]byte, 33), make([]byte, 34)})
	wantMatrix(t, "Turned of long rows not of one length", m, err, nil, api.ErrShape)
}

// P2.6: brackets.
func TestMulBrackets(t *testing.T) {
	dice := newDice()
	mul := func(a, b [][]byte) [][]byte {
		m, err := matrix.Mul(a, b)
		if err != api.OK {
			t.Fatalf("Mul of %s and %s: %v", shown(a), shown(b), err)
		}
		return m
	}
	sides := []int{1, 2, 3, 5, 32}
	for range 200 {
		p, q, r, s := sides[dice.IntN(5)], sides[dice.IntN(5)], sides[dice.IntN(5)], dice.IntN(300)
		a, b, c := someMatrix(dice, p, q), someMatrix(dice, q, r), someMatrix(dice, r, s)
		if !same(mul(mul(a, b), c), mul(a, mul(b, c))) {
			t.Errorf("brackets of %d, %d, %d, %d", p, q, r, s)
		}
		one, _ := matrix.One(q)
		if !same(mul(a, one), a) || !same(mul(one, b), b) {
			t.Errorf("One(%d) changes something", q)
		}
	}
}

// P2.6: Mul goes over sums of rows, of the first matrix and of the second one.
func TestMulOverSums(t *testing.T) {
	dice := newDice()
	plus := func(a, b [][]byte, c byte) [][]byte {
		sum := make([][]byte, len(a))
		for i := range a {
			row, err := matrix.Plus(a[i], b[i], c)
			if err != api.OK {
				t.Fatal(err)
			}
			sum[i] = row
		}
		return sum
	}
	for range 200 {
		p, q, r := 1+dice.IntN(8), 1+dice.IntN(8), 1+dice.IntN(300)
		a, b := someMatrix(dice, p, q), someMatrix(dice, p, q)
		d, e := someMatrix(dice, q, r), someMatrix(dice, q, r)
		c := byte(dice.UintN(256))
		ad, _ := matrix.Mul(a, d)
		bd, _ := matrix.Mul(b, d)
		ae, _ := matrix.Mul(a, e)
		m, err := matrix.Mul(plus(a, b, c), d)
		wantMatrix(t, "sums in the first matrix", m, err, plus(ad, bd, c), api.OK)
		m, err = matrix.Mul(a, plus(d, e, c))
		wantMatrix(t, "sums in the second matrix", m, err, plus(ad, ae, c), api.OK)
	}
}

// P2.6: ErrSingular just where Rank is less than the number of rows.
func TestSingularByRank(t *testing.T) {
	dice := newDice()
	met := map[bool]int{}
	for round := range 2000 {
		n := 1 + round%8
		a := sparseMatrix(dice, n, n)
		rank, _ := matrix.Rank(a)
		m, err := matrix.Inverse(a)
		met[rank < n]++
		if rank < n {
			wantMatrix(t, shown(a), m, err, nil, api.ErrSingular)
		} else if err != api.OK || !same(definedMul(a, m), definedOne(n)) {
			t.Errorf("Inverse of %s: %s %v", shown(a), shown(m), err)
		}
	}
	if met[true] < 100 || met[false] < 100 {
		t.Errorf("matrices with and without an inverse: %v", met)
	}
}

// roomy is a, its rows side by side in one list with room behind them, and that list.
func roomy(a [][]byte) (rows [][]byte, all []byte) {
	for _, row := range a {
		all = append(append(all, row...), 0xA5, 0x5A)
	}
	rows = make([][]byte, 0, len(a)+2)
	at := 0
	for _, row := range a {
		rows = append(rows, all[at:at+len(row)])
		at += len(row) + 2
	}
	return rows, all
}

// calls are all calls on two matrices, each as the matrix that it answers.
var calls = map[string]func(a, b [][]byte) [][]byte{
	"Plus": func(a, b [][]byte) [][]byte {
		row, _ := matrix.Plus(a[0], b[0], 7)
		return [][]byte{row}
	},
	"Plus without b": func(a, b [][]byte) [][]byte {
		row, _ := matrix.Plus(a[0], b[0], 0)
		return [][]byte{row}
	},
	"Dot": func(a, b [][]byte) [][]byte {
		matrix.Dot(a[0], b[0])
		return nil
	},
	"Mul": func(a, b [][]byte) [][]byte {
		m, _ := matrix.Mul(a, b)
		return m
	},
	"Inverse": func(a, b [][]byte) [][]byte {
		m, _ := matrix.Inverse(a)
		return m
	},
	"Rank": func(a, b [][]byte) [][]byte {
		matrix.Rank(a)
		return nil
	},
	"Turned": func(a, b [][]byte) [][]byte {
		m, _ := matrix.Turned(a)
		return m
	},
	"One": func(a, b [][]byte) [][]byte {
		m, _ := matrix.One(len(a))
		return m
	},
}

// R3: no argument is changed, nor the room behind it, by the call or by what is written into its answer.
func TestArgumentsStay(t *testing.T) {
	dice := newDice()
	for name, call := range calls {
		for n := 1; n <= 5; n++ {
			for _, first := range [][][]byte{invertible(dice, n), definedOne(n), sparseMatrix(dice, n, n)} {
				a, allA := roomy(first)
				b, allB := roomy(someMatrix(dice, n, n))
				wantA, wantB := bytes.Clone(allA), bytes.Clone(allB)
				rowsA, rowsB := copied(a), copied(b)
				for _, row := range call(a, b) {
					row = row[:cap(row)]
					for i := range row {
						row[i] ^= 0xFF
					}
				}
				if !bytes.Equal(allA, wantA) || !bytes.Equal(allB, wantB) || !same(a, rowsA) || !same(b, rowsB) {
					t.Errorf("%s of side %d changed an argument", name, n)
				}
				if !slices.EqualFunc(a[n:n+2], make([][]byte, 2), bytes.Equal) {
					t.Errorf("%s of side %d changed the room behind its rows", name, n)
				}
			}
		}
	}
}

// R3: no two rows of an answer share memory, spare room too; and what is written into an answer shows in no later one.
func TestAnswersAreNew(t *testing.T) {
	dice := newDice()
	for name, call := range calls {
		for n := 1; n <= 5; n++ {
			a, b := invertible(dice, n), someMatrix(dice, n, n)
			m := call(a, b)
			want := copied(m)
			for i, row := range m {
				row = row[:cap(row)]
				for j := range row {
					row[j] ^= 0xFF
				}
				if !same(m[i+1:], want[i+1:]) {
					t.Errorf("%s of side %d: row %d reaches into another one", name, n, i)
				}
			}
			if !same(call(a, b), want) {
				t.Errorf("%s of side %d answers otherwise once its answer was written into", name, n)
			}
		}
	}
}

// R3: an argument that stands in both places, and rows that are one list.
func TestSharedArguments(t *testing.T) {
	dice := newDice()
	for _, n := range []int{1, 2, 3, 32} {
		a := someMatrix(dice, n, n)
		m, err := matrix.Mul(a, a)
		wantMatrix(t, "a matrix by itself", m, err, definedMul(a, a), api.OK)
		row := someRow(dice, n)
		row[0] = 1
		rows := slices.Repeat([][]byte{row}, n)
		wantRank(t, rows, 1)
		m, err = matrix.Mul(rows, rows)
		wantMatrix(t, "rows that are one list", m, err, definedMul(rows, rows), api.OK)
		sum, err := matrix.Plus(row, row, 1)
		wantMatrix(t, "a row and itself", [][]byte{sum}, err, filled(1, n, 0), api.OK)
	}
}
