package stamp_test

import (
	"hash/fnv"
	"math"
	"math/big"
	"strings"
	"testing"

	"comprador/stamp"
)

// samples are bytes of several lengths and kinds.
func samples() []string {
	every := make([]byte, 256)
	for i := range every {
		every[i] = byte(i)
	}
	return []string{
		"", "\x00", "\xff", "a", "b", "ab", "ba", "abc", "abcd", "abcde",
		"\x00\x00\x00\x00", "\xff\xff\xff\xff", "\x81\x1c\x9d\xc5", "é, which has two bytes",
		string(every), strings.Repeat("x", 9000), strings.Repeat("\x00", 257),
	}
}

// plainly is what the document says of a sum, in numbers that do not go round by themselves.
func plainly(s uint32, b string) uint32 {
	n, factor, bound := big.NewInt(int64(s)), big.NewInt(16777619), big.NewInt(1<<32)
	for i := range len(b) {
		n.Xor(n, big.NewInt(int64(b[i])))
		n.Mul(n, factor)
		n.Mod(n, bound)
	}
	return uint32(n.Uint64())
}

// P2.1
func TestOf(t *testing.T) {
	for _, c := range []struct {
		b    string
		want uint32
	}{
		{"", 2166136261}, // the first number
		{"a", 3826002220},
		{"b", 0xe70c2de5},
		{"foobar", 0xbf9cf968},
		{"\x00", 0x050c5d1f},
		{"\x00\x00", 0x117697cd}, // bytes of 0 count
		{"chongo was here!\n", 0xd49930d5},
	} {
		if got := stamp.Of([]byte(c.b)); got != c.want {
			t.Errorf("Of(%q) = %d, not %d", c.b, got, c.want)
		}
	}
	if got := stamp.Of(nil); got != 2166136261 || stamp.First != 2166136261 {
		t.Errorf("Of(nil) = %d, First is %d", got, uint32(stamp.First))
	}
}

// P2.1
func TestOfManyBytes(t *testing.T) {
	for _, b := range samples() {
		h := fnv.New32a()
		h.Write([]byte(b))
		want := plainly(2166136261, b)
		if want != h.Sum32() {
			t.Fatalf("this test's own sums part at %.20q", b)
		}
		if got := stamp.Of([]byte(b)); got != want {
			t.Errorf("Of(%.20q), of %d bytes, = %d, not %d", b, len(b), got, want)
		}
	}
}

// P2.1: from the first number, from others, and where the product goes round 2^32.
func TestOn(t *testing.T) {
	for _, c := range []struct {
		s    uint32
		b    string
		want uint32
	}{
		{0, "", 0},
		{7, "", 7},
		{math.MaxUint32, "", math.MaxUint32},
		{stamp.First, "", 2166136261},
		{stamp.First, "a", 3826002220},
		{0, "\x00", 0},
		{0, "\x01", 16777619},
		{0, "\xff", 4278292845}, // the greatest product that does not go round
		{256, "\x00", 103168},   // the least one that does
		{math.MaxUint32, "\x00", 4278189677},
		{math.MaxUint32, "\xff", 4294864128},
		{1, "\x01", 0}, // an exclusive or, not a sum, nor an or
		{3, "\x05", 6 * 16777619},
	} {
		if got := stamp.On(c.s, []byte(c.b)); got != c.want {
			t.Errorf("On(%d, %q) = %d, not %d", c.s, c.b, got, c.want)
		}
	}
	if got := stamp.On(7, nil); got != 7 {
		t.Errorf("On(7, nil) = %d", got)
	}
}

// P2.1
func TestOnFromManySums(t *testing.T) {
	for _, s := range []uint32{0, 1, 255, 256, 1<<31 - 1, 1 << 31, stamp.First, math.MaxUint32 - 255, math.MaxUint32} {
		for _, b := range samples() {
			if got, want := stamp.On(s, []byte(b)), plainly(s, b); got != want {
				t.Errorf("On(%d, %.20q), of %d bytes, = %d, not %d", s, b, len(b), got, want)
			}
		}
	}
}

// P2.3: some bytes, and others behind them; cut at each place, too.
func TestTheStampGoesOn(t *testing.T) {
	for _, a := range samples() {
		for _, b := range samples() {
			if stamp.Of([]byte(a+b)) != stamp.On(stamp.Of([]byte(a)), []byte(b)) {
				t.Errorf("%.20q, and %.20q behind it", a, b)
			}
		}
	}
	whole := []byte("bytes, and others behind them")
	for i := range len(whole) + 1 {
		if stamp.On(stamp.Of(whole[:i]), whole[i:]) != stamp.Of(whole) {
			t.Errorf("cut at %d", i)
		}
	}
}

// P2.1, 0.5, 0.8: what is handed in stays as it was; what lies behind its length is not read.
func TestOfAndOnLeaveWhatTheyAreGiven(t *testing.T) {
	whole := []byte("abcdefgh")
	of, on := stamp.Of(whole[:3]), stamp.On(9, whole[:3])
	if string(whole) != "abcdefgh" {
		t.Errorf("they made %q of what was given", whole)
	}
	copy(whole[3:], "12345")
	if of != stamp.Of([]byte("abc")) || of != stamp.Of(whole[:3]) || on != stamp.On(9, whole[:3]) {
		t.Error("a sum hangs on what lies behind the length")
	}
}
