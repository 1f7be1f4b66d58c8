package vlq_test

import (
	"math"
	"strings"
	"testing"

	"comprador/api"
	"comprador/vlq"
)

// read is a read that may have an error.
type read struct {
	b    string
	most int
	num  int
	str  string
	left int
	err  api.Errno
}

func (c read) check(t *testing.T, what string, num int, str string, r *vlq.Reader) {
	t.Helper()
	if num != c.num || str != c.str || r.Left() != c.left || r.Err() != c.err {
		t.Errorf("%s(%d) of %q = %d, %q, left %d, error %d; want %d, %q, left %d, error %d",
			what, c.most, c.b, num, str, r.Left(), r.Err(), c.num, c.str, c.left, c.err)
	}
}

// P1.2
func TestNum(t *testing.T) {
	const all = math.MaxInt
	for _, c := range []read{
		{b: "\x05", most: 9, num: 5},
		{b: "\x05\x06", most: 9, num: 5, left: 1},
		{b: "\x82\x2c\x80", most: 300, num: 300, left: 1}, // what stands behind it is not looked at
		{b: "\x00", most: 0},
		{b: "\xa0\x80\x80\x80\x80\x00", most: all, num: api.MaxNum},
		{b: "\xa0\x80\x80\x80\x80\x00", most: api.MaxNum, num: api.MaxNum},

		{b: "", most: 9, err: api.ErrShort},
		{b: "", most: -1, err: api.ErrShort},

		{b: "\x80\x05", most: 9, left: 2, err: api.ErrForm},
		{b: "\x80", most: 9, left: 1, err: api.ErrForm},                               // ahead of ErrShort
		{b: "\x80\x80\x80\x80\x80\x80\x01", most: all, left: 7, err: api.ErrForm},     // ahead of ErrLong
		{b: "\x81\xff\xff\xff\xff\xff\x01", most: all, left: 7, err: api.ErrLong},     // six of 128 or more
		{b: "\x81\x80\x80\x80\x80\x80", most: all, left: 6, err: api.ErrLong},         // ahead of ErrShort
		{b: "\xff\xff\xff\xff\xff\xff\xff\xff", most: all, left: 8, err: api.ErrLong}, // more than six
		{b: "\x81\x80\x80\x80\x80", most: all, left: 5, err: api.ErrShort},
		{b: "\x81", most: 0, left: 1, err: api.ErrShort},
		{b: "\xff\xff", most: 5, left: 2, err: api.ErrShort}, // ahead of ErrLong

		{b: "\xa0\x80\x80\x80\x80\x01", most: all, left: 6, err: api.ErrLong},
		{b: "\xff\xff\xff\xff\xff\x7f", most: all, left: 6, err: api.ErrLong},
		{b: "\x82\x2c", most: 299, left: 2, err: api.ErrLong},
		{b: "\x01", most: 0, left: 1, err: api.ErrLong},
		{b: "\x00", most: -1, left: 1, err: api.ErrLong},
		{b: "\x00", most: math.MinInt, left: 1, err: api.ErrLong},
	} {
		r := vlq.Open([]byte(c.b))
		c.check(t, "Num", r.Num(c.most), "", r)
	}
}

// P1.2
func TestStr(t *testing.T) {
	long := strings.Repeat("x", 300)
	for _, c := range []read{
		{b: "\x00", most: 0},
		{b: "\x00", most: 9},
		{b: "\x03xyz", most: 3, str: "xyz"},
		{b: "\x03xyz\x80", most: 9, str: "xyz", left: 1},
		{b: "\x02\xff\x00", most: 9, str: "\xff\x00"},
		{b: "\x82\x2c" + long, most: 300, str: long},

		{b: "", most: 9, err: api.ErrShort},
		{b: "\x80xyz", most: 9, left: 4, err: api.ErrForm},
		{b: "\x81\x80\x80\x80\x80\x80\x00", most: 9, left: 7, err: api.ErrLong},
		{b: "\x81", most: 9, left: 1, err: api.ErrShort},
		{b: "\x03xyz", most: 2, left: 4, err: api.ErrLong},
		{b: "\x00", most: -1, left: 1, err: api.ErrLong},
		{b: "\xff\xff\xff\xff\xff\x7f", most: math.MaxInt, left: 6, err: api.ErrLong},

		{b: "\x01", most: 9, left: 1, err: api.ErrShort},
		{b: "\x03xy", most: 9, left: 3, err: api.ErrShort},       // its count is not taken either
		{b: "\x03xy", most: 2, left: 3, err: api.ErrLong},        // ahead of ErrShort
		{b: "\x81\x00xy", most: 200, left: 4, err: api.ErrShort}, // the count's own bytes are not the text's
		{b: "\xa0\x80\x80\x80\x80\x00xy", most: math.MaxInt, left: 8, err: api.ErrShort},
	} {
		r := vlq.Open([]byte(c.b))
		c.check(t, "Str", 0, r.Str(c.most), r)
	}
}

// behind tells whether reads behind an error take and tell nothing, and leave the error.
func behind(t *testing.T, what string, r *vlq.Reader, left int, err api.Errno) {
	t.Helper()
	for range 2 {
		if n := r.Num(math.MaxInt); n != 0 {
			t.Errorf("%s: Num behind it = %d", what, n)
		}
		if s := r.Str(math.MaxInt); s != "" {
			t.Errorf("%s: Str behind it = %q", what, s)
		}
		if r.Left() != left || r.Err() != err || r.Close() != err {
			t.Errorf("%s: left %d, error %d, at Close %d; want %d, %d", what, r.Left(), r.Err(), r.Close(), left, err)
		}
	}
}

// P1.2, P1.3: reads behind an error, which stays the first one.
func TestReadsBehindAnError(t *testing.T) {
	r := vlq.Open([]byte("\x05\x01a\x02b"))
	r.Num(4)
	behind(t, "a Num above most", r, 5, api.ErrLong)

	r = vlq.Open([]byte("\x05\x01a\x02b"))
	if r.Num(9) != 5 || r.Str(9) != "a" || r.Left() != 2 {
		t.Error("a number and a text, in turn")
	}
	r.Str(9)
	behind(t, "a Str that is cut", r, 2, api.ErrShort)

	r = vlq.Open([]byte("\x80\x01a"))
	r.Str(9)
	r.Bad(api.ErrOther)
	behind(t, "a count that is not in form", r, 3, api.ErrForm)
}

// P1.3
func TestBad(t *testing.T) {
	r := vlq.Open([]byte("\x05\x01a"))
	r.Bad(api.OK)
	if r.Err() != api.OK || r.Num(9) != 5 {
		t.Error("Bad of OK is no error")
	}
	r.Bad(api.ErrSum)
	behind(t, "Bad", r, 2, api.ErrSum)
	r.Bad(api.ErrOther)
	r.Bad(api.OK)
	behind(t, "the first Bad of three", r, 2, api.ErrSum)

	r = vlq.Open(nil)
	r.Bad(api.Errno(-77)) // a number that api does not name
	behind(t, "Bad of a number without a name", r, 0, -77)
}

// P1.3
func TestClose(t *testing.T) {
	r := vlq.Open([]byte("\x05\x06"))
	// 0.6: that it told an error changes nothing.
	for range 2 {
		if r.Close() != api.ErrForm || r.Err() != api.OK || r.Left() != 2 {
			t.Errorf("bytes are left: Close %d, Err %d, left %d", r.Close(), r.Err(), r.Left())
		}
	}
	if r.Num(9) != 5 || r.Close() != api.ErrForm || r.Num(9) != 6 || r.Close() != api.OK || r.Err() != api.OK {
		t.Error("reads behind a Close that told ErrForm")
	}
	if r.Num(9) != 0 || r.Close() != api.ErrShort {
		t.Errorf("behind the end: Close %d", r.Close())
	}
	if e := vlq.Open(nil).Close(); e != api.OK {
		t.Errorf("no bytes: Close %d", e)
	}
}

// P1.3
func TestNilReader(t *testing.T) {
	var r *vlq.Reader
	r.Bad(api.ErrSum)
	if n, s := r.Num(9), r.Str(9); n != 0 || s != "" || r.Left() != 0 {
		t.Errorf("a nil reader tells %d, %q, left %d", n, s, r.Left())
	}
	if r.Err() != api.ErrArg || r.Close() != api.ErrArg {
		t.Errorf("a nil reader's errors: %d, %d", r.Err(), r.Close())
	}
}

// 0.1: a reader that was not opened is one of no bytes.
func TestReaderThatWasNotOpened(t *testing.T) {
	var r vlq.Reader
	if r.Left() != 0 || r.Close() != api.OK {
		t.Errorf("left %d, Close %d", r.Left(), r.Close())
	}
	if r.Num(9) != 0 || r.Err() != api.ErrShort {
		t.Errorf("Num's error: %d", r.Err())
	}
}

// P1.2, 0.8: a copy, of what lies within b's length.
func TestOpenCopies(t *testing.T) {
	whole := []byte("\x05\x02ab\x07")
	r := vlq.Open(whole[:4])
	for i := range whole {
		whole[i] = 128
	}
	if r.Left() != 4 || r.Num(9) != 5 || r.Str(9) != "ab" || r.Close() != api.OK {
		t.Error("what was opened hangs on what was given")
	}
	if string(whole) != "\x80\x80\x80\x80\x80" {
		t.Errorf("a reader made %q of what was given", whole)
	}
}

// P1.4
func TestWhatWasPutIsRead(t *testing.T) {
	for _, tail := range []string{"", "\x00", "\x7f", "\x80", "\xff\xff\xff\xff\xff\xff\xff", "text"} {
		for _, c := range numbers {
			b := append(vlq.Put([]byte("\x01"), c.n), tail...)
			r := vlq.Open(b)
			if r.Num(1) != 1 || r.Num(c.n) != c.n || r.Left() != len(tail) || r.Err() != api.OK {
				t.Errorf("%d ahead of %q was not read: error %d", c.n, tail, r.Err())
			}
		}
		for _, s := range []string{"", "a", "\x80\xff", strings.Repeat("é", 64), strings.Repeat("z", 20000)} {
			b := append(vlq.Text(nil, s), tail...)
			r := vlq.Open(b)
			if r.Str(len(s)) != s || r.Left() != len(tail) || r.Err() != api.OK {
				t.Errorf("a text of %d bytes ahead of %q was not read: error %d", len(s), tail, r.Err())
			}
		}
	}
}

// plainly is what the document says of a number's read, error by error.
func plainly(b []byte, most int) (n, taken int, e api.Errno) {
	high := 0 // how many of 128 or more it begins with
	for high < len(b) && b[high] >= 128 {
		high++
	}
	switch {
	case len(b) == 0:
		return 0, 0, api.ErrShort
	case b[0] == 128:
		return 0, 0, api.ErrForm
	case high >= 6:
		return 0, 0, api.ErrLong
	case high == len(b):
		return 0, 0, api.ErrShort
	}
	for _, c := range b[:high+1] {
		n = n*128 + int(c)%128
	}
	if n > api.MaxNum || n > most {
		return 0, 0, api.ErrLong
	}
	return n, high + 1, api.OK
}

// P1.2, P1.4: all that a few bytes can be put together to.
func TestNumOfAllBytes(t *testing.T) {
	letters := []byte{0, 1, 127, 128, 129, 160, 255}
	var all func(b []byte)
	all = func(b []byte) {
		for _, most := range []int{-1, 0, 200, math.MaxInt} {
			n, taken, e := plainly(b, most)
			r := vlq.Open(b)
			if got := r.Num(most); got != n || r.Left() != len(b)-taken || r.Err() != e {
				t.Fatalf("Num(%d) of %q = %d, left %d, error %d; want %d, left %d, error %d",
					most, b, got, r.Left(), r.Err(), n, len(b)-taken, e)
			}
			if e == api.OK && string(vlq.Put(nil, n)) != string(b[:taken]) {
				t.Fatalf("%d was read of %q, but is put as %q", n, b[:taken], vlq.Put(nil, n))
			}
		}
		if len(b) < 7 {
			for _, c := range letters {
				all(append(b[:len(b):len(b)], c))
			}
		}
	}
	all(nil)
}
