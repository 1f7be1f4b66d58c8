package vlq_test

import (
	"math"
	"strings"
	"testing"

	"comprador/api"
	"comprador/vlq"
)

// numbers are where a number's bytes become one more, and their neighbours.
var numbers = []struct {
	n     int
	bytes string
}{
	{0, "\x00"},
	{1, "\x01"},
	{127, "\x7f"},
	{128, "\x81\x00"},
	{300, "\x82\x2c"},
	{1<<14 - 1, "\xff\x7f"},
	{1 << 14, "\x81\x80\x00"},
	{1<<21 - 1, "\xff\xff\x7f"},
	{1 << 21, "\x81\x80\x80\x00"},
	{1<<28 - 1, "\xff\xff\xff\x7f"},
	{1 << 28, "\x81\x80\x80\x80\x00"},
	{1<<35 - 1, "\xff\xff\xff\xff\x7f"},
	{1 << 35, "\x81\x80\x80\x80\x80\x00"},
	{api.MaxNum - 1, "\x9f\xff\xff\xff\xff\x7f"},
	{api.MaxNum, "\xa0\x80\x80\x80\x80\x00"},
}

// P1.1
func TestPutOfOneNumber(t *testing.T) {
	for _, c := range numbers {
		if got := string(vlq.Put(nil, c.n)); got != c.bytes {
			t.Errorf("Put(nil, %d) = %q, not %q", c.n, got, c.bytes)
		}
	}
}

// P1.1
func TestPutOfNumbersThatMayNotBe(t *testing.T) {
	for _, n := range []int{-1, -128, -300, math.MinInt} {
		if got := string(vlq.Put(nil, n)); got != "\x00" {
			t.Errorf("Put(nil, %d) = %q, not those of 0", n, got)
		}
	}
	for _, n := range []int{api.MaxNum + 1, 1 << 42, 1 << 62, math.MaxInt} {
		if got := string(vlq.Put(nil, n)); got != "\xa0\x80\x80\x80\x80\x00" {
			t.Errorf("Put(nil, %d) = %q, not those of MaxNum", n, got)
		}
	}
}

// P1.1
func TestPutOfMoreNumbersOrNone(t *testing.T) {
	if got := vlq.Put(nil); len(got) != 0 {
		t.Errorf("Put(nil) = %q", got)
	}
	if got := string(vlq.Put([]byte("ab"))); got != "ab" {
		t.Errorf("Put of no number behind ab = %q", got)
	}
	if got := string(vlq.Put([]byte("ab"), 300, -1, 5, 128)); got != "ab\x82\x2c\x00\x05\x81\x00" {
		t.Errorf("Put of four numbers behind ab = %q", got)
	}
}

// P1.1
func TestTextIsItsLengthAndItsBytes(t *testing.T) {
	long := strings.Repeat("x", 300)
	for _, c := range []struct{ b, s, want string }{
		{"", "", "\x00"},
		{"ab", "", "ab\x00"},
		{"ab", "xyz", "ab\x03xyz"},
		{"", "\xff\x00é", "\x04\xff\x00\xc3\xa9"}, // bytes, not runes
		{"", long[:127], "\x7f" + long[:127]},
		{"", long[:128], "\x81\x00" + long[:128]},
		{"", long, "\x82\x2c" + long},
	} {
		if got := string(vlq.Text([]byte(c.b), c.s)); got != c.want {
			t.Errorf("Text(%q, %q) = %q, not %q", c.b, c.s, got, c.want)
		}
	}
}

// P1.1, 0.5: what lies behind b's length stays as it is, and what is answered is new memory.
func TestPutAndTextLeaveWhatTheyAreGiven(t *testing.T) {
	for name, call := range map[string]func(b []byte) []byte{
		"Put of none": func(b []byte) []byte { return vlq.Put(b) },
		"Put":         func(b []byte) []byte { return vlq.Put(b, 300, 7) },
		"Text":        func(b []byte) []byte { return vlq.Text(b, "xyz") },
	} {
		whole := []byte("abcdefghijkl")
		given := whole[:2]
		first := call(given)
		want := string(first)
		second := call(given)
		if string(whole) != "abcdefghijkl" {
			t.Errorf("%s: it made %q of what was given", name, whole)
		}
		for i := range first {
			first[i] ^= 255
		}
		if string(whole) != "abcdefghijkl" || string(second) != want {
			t.Errorf("%s: what is answered shares memory", name)
		}
		for i := range given {
			given[i] ^= 255
		}
		if string(second) != want {
			t.Errorf("%s: what is answered hangs on what was given", name)
		}
	}
}

// P1.1, 0.5: numbers that are handed in as a list stay as they are.
func TestPutLeavesItsNumbers(t *testing.T) {
	l := []int{-1, 300, math.MaxInt}
	vlq.Put(nil, l...)
	if l[0] != -1 || l[1] != 300 || l[2] != math.MaxInt {
		t.Errorf("Put made %v of its numbers", l)
	}
}

// P1.5
func TestBytesOfOneLengthStandAsTheirNumbersDo(t *testing.T) {
	l := []int{}
	for _, c := range numbers {
		for _, n := range []int{c.n - 1, c.n, c.n + 1, c.n + c.n/3} {
			if n >= 0 && n <= api.MaxNum {
				l = append(l, n)
			}
		}
	}
	for _, a := range l {
		for _, b := range l {
			x, y := string(vlq.Put(nil, a)), string(vlq.Put(nil, b))
			if len(x) == len(y) && (a < b) != (x < y) {
				t.Errorf("%d and %d: bytes %q and %q", a, b, x, y)
			}
			if a < b && len(x) > len(y) {
				t.Errorf("%d has more bytes than %d", a, b)
			}
		}
	}
}
