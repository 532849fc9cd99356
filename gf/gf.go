// Package gf is layer 1: see shared/doc/01-gf.md.
package gf

import "tabulary/api"

const (
	polynomial = 0x11D // x^8 + x^4 + x^3 + x^2 + 1
	order      = 255   // numbers but 0, which is how many powers 2 has
)

// Add adds.
func Add(a, b byte) byte { return a ^ b }

// Mul multiplies. It goes from b's greatest bit down, so that what was added so far is never longer than a byte.
func Mul(a, b byte) byte {
	var p byte
	for i := range 8 {
		p = double(p)
		if b>>(7-i)&1 == 1 {
			p = Add(p, a)
		}
	}
	return p
}

// Inverse is the number by which a becomes 1.
func Inverse(a byte) (byte, api.Errno) {
	n, err := Log(a)
	if err != api.OK {
		return 0, err
	}
	return Exp(-n), api.OK
}

// Div divides.
func Div(a, b byte) (byte, api.Errno) {
	c, err := Inverse(b)
	if err != api.OK {
		return 0, err
	}
	return Mul(a, c), api.OK
}

// Exp is 2 to a power.
func Exp(n int) byte {
	t := makeTables()
	return t.powers[turn(n)]
}

// Log is the power of 2 that a is.
func Log(a byte) (int, api.Errno) {
	if a == 0 {
		return 0, api.ErrArg
	}
	t := makeTables()
	return int(t.numbers[a]), api.OK
}

// Pow is a power.
func Pow(a byte, n int) byte {
	if n == 0 {
		return 1
	}
	m, err := Log(a)
	if err != api.OK {
		return 0
	}
	// n is brought below order first, since m times n may be more than an int holds.
	return Exp(m * turn(n))
}

// tables hold the powers of 2, and which power each number is (what stands there for 0, which is none, is not asked for).
type tables struct {
	powers  [order]byte
	numbers [order + 1]byte
}

func makeTables() tables {
	var t tables
	x := byte(1)
	put := func(n int) {
		t.powers[n] = x
		t.numbers[x] = byte(n)
		x = double(x)
	}
	for n := range order {
		put(n)
	}
	return t
}

// double multiplies by 2; the one bit that may come to stand behind a byte is taken away by the polynomial.
func double(a byte) byte {
	r := uint16(a) << 1
	if r>>8 == 1 {
		r ^= polynomial
	}
	return byte(r)
}

// turn is n modulo order, also below 0, where Go's own remainder isn't.
func turn(n int) int {
	return (n%order + order) % order
}
