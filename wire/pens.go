package wire

import (
	"bytes"

	"tabulary/api"
)

// pen goes over the parts of a message, one behind the other, and answers each as it is to stand in the message: one that writes is handed it, one that reads finds it. So there is one order of the fields, and one place where the bound of each is told.
type pen interface {
	// number is a number of so many bytes.
	number(n uint64, width int) uint64
	// count is one that may be from 0 to most; past is what it is where it may not.
	count(n, most, width int, past api.Errno) int
	// bytes are just so many bytes.
	bytes(b []byte, size int) []byte
}

// blank goes over the fields that a type has not.
type blank struct{}

func (blank) number(n uint64, width int) uint64 {
	must(n == 0, api.ErrShape)
	return 0
}

func (blank) count(n, most, width int, past api.Errno) int {
	must(n == 0, api.ErrShape)
	return 0
}

func (blank) bytes(b []byte, size int) []byte { return nil }

// ruler finds what is wrong with the fields that a type has, and how many bytes they take.
type ruler struct{ size int }

func (r *ruler) number(n uint64, width int) uint64 {
	r.size += width
	return n
}

func (r *ruler) count(n, most, width int, past api.Errno) int {
	must(0 <= n && n <= most, past)
	r.size += width
	return n
}

func (r *ruler) bytes(b []byte, size int) []byte {
	must(len(b) == size, api.ErrShape)
	r.size += size
	return b
}

// writer lays a message that a ruler went over.
type writer struct{ b []byte }

func (w *writer) number(n uint64, width int) uint64 {
	for left := width - 1; left >= 0; left-- {
		w.b = append(w.b, byte(n>>(8*left)))
	}
	return n
}

func (w *writer) count(n, most, width int, past api.Errno) int {
	return int(w.number(uint64(n), width))
}

func (w *writer) bytes(b []byte, size int) []byte {
	w.b = append(w.b, b...)
	return b
}

// reader has the bytes that are still to be read. It is handed what stands in a blank message.
type reader struct{ b []byte }

func (r *reader) number(_ uint64, width int) uint64 {
	n := uint64(0)
	for _, c := range r.take(width) {
		n = n<<8 | uint64(c)
	}
	return n
}

func (r *reader) count(_, most, width int, past api.Errno) int {
	n := int(r.number(0, width))
	must(n <= most, past)
	return n
}

func (r *reader) bytes(_ []byte, size int) []byte { return bytes.Clone(r.take(size)) }

// take cuts bytes off those that are still to be read.
func (r *reader) take(size int) []byte {
	must(size <= len(r.b), api.ErrShort)
	taken := r.b[:size]
	r.b = r.b[size:]
	return taken
}
