// Package vlq is layer 1: see shared/doc/01-vlq.md.
package vlq

import "comprador/api"

const (
	digit    = 7   // bits of a digit
	more     = 128 // what a byte has more if another digit follows
	maxBytes = 6   // bytes of the greatest number
)

// Put puts numbers behind bytes.
func Put(b []byte, n ...int) []byte {
	// Not appended to b itself: what lies behind b's length belongs to the caller.
	l := append([]byte(nil), b...)
	for _, x := range n {
		l = putNum(l, x)
	}
	return l
}

// Text puts a text behind bytes.
func Text(b []byte, s string) []byte {
	return append(Put(b, len(s)), s...)
}

// putNum appends a number, held within 0 and MaxNum, to bytes that are its caller's own.
func putNum(b []byte, n int) []byte {
	n = min(max(n, 0), api.MaxNum)
	shift := 0
	for n>>(shift+digit) > 0 {
		shift += digit
	}
	for ; shift > 0; shift -= digit {
		b = append(b, byte(n>>shift)|more)
	}
	return append(b, byte(n)&^more)
}

// Reader reads bytes.
type Reader struct {
	b   []byte
	at  int // how many bytes were taken
	err api.Errno
}

// Open is a reader of bytes.
func Open(b []byte) *Reader {
	own := make([]byte, len(b))
	copy(own, b)
	return &Reader{b: own}
}

// Num is the next number.
func (r *Reader) Num(most int) int {
	if r.Err() != api.OK {
		return 0
	}
	n, size, e := number(r.b[r.at:], most)
	if e != api.OK {
		r.err = e
		return 0
	}
	r.at += size
	return n
}

// Str is the next text.
func (r *Reader) Str(most int) string {
	if r.Err() != api.OK {
		return ""
	}
	rest := r.b[r.at:]
	n, size, e := number(rest, most)
	if e == api.OK && n > len(rest)-size {
		e = api.ErrShort
	}
	if e != api.OK {
		r.err = e
		return ""
	}
	// Only here: a text that is cut short leaves its count untaken, too.
	r.at += size + n
	return string(rest[size : size+n])
}

// Left is how many bytes are left.
func (r *Reader) Left() int {
	if r == nil {
		return 0
	}
	return len(r.b) - r.at
}

// Bad notes an error.
func (r *Reader) Bad(e api.Errno) {
	if r.Err() == api.OK {
		r.err = e
	}
}

// Err is the error.
func (r *Reader) Err() api.Errno {
	if r == nil {
		return api.ErrArg
	}
	return r.err
}

// Close is the error, at the end.
func (r *Reader) Close() api.Errno {
	if e := r.Err(); e != api.OK {
		return e
	}
	if r.Left() > 0 {
		return api.ErrForm
	}
	return api.OK
}

// number is the number that bytes begin with, and how many bytes it has.
func number(b []byte, most int) (int, int, api.Errno) {
	size, e := width(b)
	if e != api.OK {
		return 0, 0, e
	}
	n := 0
	for _, c := range b[:size] {
		n = n<<digit | int(c&^more)
	}
	if n > api.MaxNum || n > most {
		return 0, 0, api.ErrLong
	}
	return n, size, api.OK
}

// width is how many bytes the number has that bytes begin with.
func width(b []byte) (int, api.Errno) {
	if len(b) == 0 {
		return 0, api.ErrShort
	}
	if b[0] == more { // a 0 ahead of other digits: not as few as may be
		return 0, api.ErrForm
	}
	for i, c := range b {
		if c < more {
			return i + 1, api.OK
		}
		if i+1 == maxBytes {
			return 0, api.ErrLong
		}
	}
	return 0, api.ErrShort
}
