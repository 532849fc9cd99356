package gf_test

import (
	"math"
	"math/big"
	"testing"

	"tabulary/api"
	"tabulary/gf"
)

// edges are numbers of powers at which a count modulo 255 may go wrong.
var edges = []int{
	0, 1, 2, 127, 128, 253, 254, 255, 256, 257, 509, 510, 511, 65025, 65280,
	-1, -2, -127, -128, -253, -254, -255, -256, -257, -509, -510, -511, -65025, -65280,
	math.MaxInt32, math.MinInt32, math.MaxInt32 - 1, math.MinInt32 + 1,
	math.MaxInt / 255, math.MinInt / 255, math.MaxInt/254 + 1, math.MinInt/254 - 1,
	math.MaxInt - 1, math.MaxInt, math.MinInt + 1, math.MinInt,
}

// fieldPolynomial holds the coefficients of x^8 + x^4 + x^3 + x^2 + 1, that of x^0 first.
var fieldPolynomial = [9]int{1, 0, 1, 1, 1, 0, 0, 0, 1}

func coefficients(a byte) [8]int {
	var c [8]int
	for i := range c {
		c[i] = int(a) / (1 << i) % 2
	}
	return c
}

// definedMul is chapter 1's product by the letter: coefficients multiplied out modulo 2, then what is left of a long division.
func definedMul(a, b byte) byte {
	var p [15]int
	for i, x := range coefficients(a) {
		for j, y := range coefficients(b) {
			p[i+j] = (p[i+j] + x*y) % 2
		}
	}
	for top := 14; top >= 8; top-- {
		by := p[top]
		for i, c := range fieldPolynomial {
			p[top-8+i] = (p[top-8+i] + by*c) % 2
		}
	}
	n := 0
	for i, c := range p {
		n += c << i
	}
	return byte(n)
}

func definedAdd(a, b byte) byte {
	n := 0
	ca, cb := coefficients(a), coefficients(b)
	for i := range ca {
		n += (ca[i] + cb[i]) % 2 << i
	}
	return byte(n)
}

// definedExp multiplies 2 with itself, n modulo 255 times; the modulus is taken of a number without bounds.
func definedExp(n *big.Int) byte {
	x := byte(1)
	for range new(big.Int).Mod(n, big.NewInt(255)).Int64() {
		x = definedMul(x, 2)
	}
	return x
}

func definedLog(t *testing.T, a byte) int {
	t.Helper()
	x := byte(1)
	for n := range 255 {
		if x == a {
			return n
		}
		x = definedMul(x, 2)
	}
	t.Fatalf("%d is no power of 2", a)
	return 0
}

// products is Mul of all pairs, so that laws over three numbers are soon gone through.
func products() *[256][256]byte {
	var p [256][256]byte
	for a := range 256 {
		for b := range 256 {
			p[a][b] = gf.Mul(byte(a), byte(b))
		}
	}
	return &p
}

// P1.1 to P1.4: the chapter's table.
func TestExamplesOfSumsAndProducts(t *testing.T) {
	for _, x := range []struct {
		what      string
		got, want byte
	}{
		{"Add(5, 3)", gf.Add(5, 3), 6},
		{"Mul(2, 128)", gf.Mul(2, 128), 29},
		{"Mul(3, 7)", gf.Mul(3, 7), 9},
		{"Mul(0, 9)", gf.Mul(0, 9), 0},
		{"Exp(0)", gf.Exp(0), 1},
		{"Exp(8)", gf.Exp(8), 29},
		{"Exp(255)", gf.Exp(255), 1},
		{"Exp(-1)", gf.Exp(-1), 142},
		{"Pow(2, 8)", gf.Pow(2, 8), 29},
		{"Pow(2, -1)", gf.Pow(2, -1), 142},
		{"Pow(0, 0)", gf.Pow(0, 0), 1},
		{"Pow(0, 5)", gf.Pow(0, 5), 0},
		{"Pow(0, -5)", gf.Pow(0, -5), 0},
		{"Pow(7, 255)", gf.Pow(7, 255), 1},
	} {
		if x.got != x.want {
			t.Errorf("%s: %d, not %d", x.what, x.got, x.want)
		}
	}
}

func TestExamplesWithErrors(t *testing.T) {
	type answer struct {
		n int
		e api.Errno
	}
	of := func(b byte, e api.Errno) answer { return answer{int(b), e} }
	log := func(a byte) answer {
		n, e := gf.Log(a)
		return answer{n, e}
	}
	for _, x := range []struct {
		what      string
		got, want answer
	}{
		{"Inverse(2)", of(gf.Inverse(2)), answer{142, api.OK}},
		{"Inverse(1)", of(gf.Inverse(1)), answer{1, api.OK}},
		{"Inverse(0)", of(gf.Inverse(0)), answer{0, api.ErrArg}},
		{"Div(29, 128)", of(gf.Div(29, 128)), answer{2, api.OK}},
		{"Div(7, 0)", of(gf.Div(7, 0)), answer{0, api.ErrArg}},
		{"Log(1)", log(1), answer{0, api.OK}},
		{"Log(29)", log(29), answer{8, api.OK}},
		{"Log(0)", log(0), answer{0, api.ErrArg}},
	} {
		if x.got != x.want {
			t.Errorf("%s: %v, not %v", x.what, x.got, x.want)
		}
	}
}

// P1.1.
func TestAddAndMulOfAllPairs(t *testing.T) {
	for i := range 256 {
		for j := range 256 {
			a, b := byte(i), byte(j)
			if got, want := gf.Add(a, b), definedAdd(a, b); got != want {
				t.Fatalf("Add(%d, %d): %d, not %d", a, b, got, want)
			}
			if got, want := gf.Mul(a, b), definedMul(a, b); got != want {
				t.Fatalf("Mul(%d, %d): %d, not %d", a, b, got, want)
			}
		}
	}
}

// P1.2.
func TestInverseOfEveryNumber(t *testing.T) {
	if b, e := gf.Inverse(0); b != 0 || e != api.ErrArg {
		t.Errorf("Inverse(0): %d, %v", b, e)
	}
	for i := 1; i < 256; i++ {
		a := byte(i)
		b, e := gf.Inverse(a)
		if e != api.OK || definedMul(a, b) != 1 {
			t.Errorf("Inverse(%d): %d, %v", a, b, e)
		}
	}
}

// P1.2.
func TestDivOfAllPairs(t *testing.T) {
	for i := range 256 {
		a := byte(i)
		if c, e := gf.Div(a, 0); c != 0 || e != api.ErrArg {
			t.Fatalf("Div(%d, 0): %d, %v", a, c, e)
		}
		for j := 1; j < 256; j++ {
			b := byte(j)
			c, e := gf.Div(a, b)
			if e != api.OK || definedMul(c, b) != a {
				t.Fatalf("Div(%d, %d): %d, %v", a, b, c, e)
			}
		}
	}
}

// P1.3.
func TestExpAtEdges(t *testing.T) {
	for _, n := range edges {
		if got, want := gf.Exp(n), definedExp(big.NewInt(int64(n))); got != want {
			t.Errorf("Exp(%d): %d, not %d", n, got, want)
		}
	}
}

// P1.3: one step on is one doubling more, also over 0.
func TestExpStepByStep(t *testing.T) {
	for n := -600; n < 600; n++ {
		if got, want := gf.Exp(n+1), definedMul(gf.Exp(n), 2); got != want {
			t.Fatalf("Exp(%d): %d, not %d", n+1, got, want)
		}
	}
}

// P1.3.
func TestLogOfEveryNumber(t *testing.T) {
	if n, e := gf.Log(0); n != 0 || e != api.ErrArg {
		t.Errorf("Log(0): %d, %v", n, e)
	}
	for i := 1; i < 256; i++ {
		a := byte(i)
		n, e := gf.Log(a)
		if want := definedLog(t, a); e != api.OK || n != want {
			t.Errorf("Log(%d): %d, %v, not %d", a, n, e, want)
		}
		if x := gf.Exp(n); x != a {
			t.Errorf("Exp(Log(%d)): %d", a, x)
		}
	}
}

// P1.4.
func TestPowOfEveryNumberAtEdges(t *testing.T) {
	for _, n := range edges {
		zero := byte(0)
		if n == 0 {
			zero = 1
		}
		if got := gf.Pow(0, n); got != zero {
			t.Errorf("Pow(0, %d): %d, not %d", n, got, zero)
		}
		for i := 1; i < 256; i++ {
			a := byte(i)
			power := new(big.Int).Mul(big.NewInt(int64(definedLog(t, a))), big.NewInt(int64(n)))
			if got, want := gf.Pow(a, n), definedExp(power); got != want {
				t.Fatalf("Pow(%d, %d): %d, not %d", a, n, got, want)
			}
		}
	}
}

// P1.4: a power is what multiplying comes to, below 0 with the inverse.
func TestPowStepByStep(t *testing.T) {
	for i := 1; i < 256; i++ {
		a := byte(i)
		for n := -257; n < 257; n++ {
			if got, want := gf.Pow(a, n+1), definedMul(gf.Pow(a, n), a); got != want {
				t.Fatalf("Pow(%d, %d): %d, not %d", a, n+1, got, want)
			}
		}
	}
}

// P1.5: both ways, what changes nothing, inverses, and where a product is 0.
func TestFieldLawsOfPairs(t *testing.T) {
	for i := range 256 {
		a := byte(i)
		if gf.Add(a, 0) != a || gf.Mul(a, 1) != a || gf.Add(a, a) != 0 {
			t.Errorf("0, 1 or its own inverse with %d", a)
		}
		inverses := 0
		for j := range 256 {
			b := byte(j)
			if gf.Add(a, b) != gf.Add(b, a) || gf.Mul(a, b) != gf.Mul(b, a) {
				t.Errorf("%d and %d do not go both ways", a, b)
			}
			if (gf.Mul(a, b) == 0) != (a == 0 || b == 0) {
				t.Errorf("Mul(%d, %d): %d", a, b, gf.Mul(a, b))
			}
			if gf.Mul(a, b) == 1 {
				inverses++
			}
		}
		if want := min(i, 1); inverses != want {
			t.Errorf("%d has %d inverses, not %d", a, inverses, want)
		}
	}
}

// P1.5: any order of brackets, and Mul over Add.
func TestFieldLawsOfTriples(t *testing.T) {
	p := products()
	for a := range 256 {
		for b := range 256 {
			sum := gf.Add(byte(a), byte(b))
			for c := range 256 {
				if gf.Add(sum, byte(c)) != gf.Add(byte(a), gf.Add(byte(b), byte(c))) {
					t.Fatalf("sums of %d, %d, %d", a, b, c)
				}
				if p[p[a][b]][c] != p[a][p[b][c]] {
					t.Fatalf("products of %d, %d, %d", a, b, c)
				}
				if p[sum][c] != gf.Add(p[a][c], p[b][c]) {
					t.Fatalf("Mul over Add with %d, %d, %d", a, b, c)
				}
			}
		}
	}
}

// P1.6: wherever it begins, Exp goes through all 255 numbers but 0.
func TestExpGoesThroughAll(t *testing.T) {
	for _, from := range []int{0, 1, 100, 255, -1, -255, math.MaxInt - 254, math.MinInt} {
		var met [256]int
		for n := range 255 {
			met[gf.Exp(from+n)]++
		}
		for a, count := range met {
			if want := min(a, 1); count != want {
				t.Errorf("from %d on, %d comes %d times, not %d", from, a, count, want)
			}
		}
	}
}

// sumFits tells whether m + n is an int: if it wrapped round, it went the wrong way.
func sumFits(m, n int) bool { return (n >= 0) == (m+n >= m) }

// P1.6.
func TestPowersAreAdded(t *testing.T) {
	for _, m := range edges {
		for _, n := range edges {
			if !sumFits(m, n) {
				continue
			}
			if got, want := gf.Mul(gf.Exp(m), gf.Exp(n)), gf.Exp(m+n); got != want {
				t.Fatalf("Exp of %d and %d: %d, not %d", m, n, got, want)
			}
			for _, a := range []byte{1, 2, 3, 7, 29, 128, 142, 254, 255} {
				if got, want := gf.Mul(gf.Pow(a, m), gf.Pow(a, n)), gf.Pow(a, m+n); got != want {
					t.Fatalf("Pow of %d to %d and %d: %d, not %d", a, m, n, got, want)
				}
			}
		}
	}
}

// P1.7.
func TestSquaresOfSums(t *testing.T) {
	for i := range 256 {
		for j := range 256 {
			a, b := byte(i), byte(j)
			sum := gf.Add(a, b)
			if gf.Mul(sum, sum) != gf.Add(gf.Mul(a, a), gf.Mul(b, b)) {
				t.Fatalf("square of %d and %d", a, b)
			}
		}
	}
}

// R2: nothing that was asked in between changes an answer.
func TestAnswersStay(t *testing.T) {
	first := products()
	for _, n := range edges {
		gf.Exp(n)
		gf.Pow(byte(n), n)
		gf.Log(byte(n))
		gf.Div(3, byte(n))
	}
	if *products() != *first {
		t.Error("products changed")
	}
}

func BenchmarkMul(b *testing.B) {
	for i := range b.N {
		gf.Mul(byte(i), byte(i>>8))
	}
}

func BenchmarkInverse(b *testing.B) {
	for i := range b.N {
		gf.Inverse(byte(i))
	}
}
