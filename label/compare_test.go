package label_test

import (
	"slices"
	"strings"
	"testing"

	"comprador/label"
)

// both holds two texts against one another, both ways round.
func both(t *testing.T, a, b string, want int) {
	t.Helper()
	if got := label.Compare(a, b); got != want {
		t.Errorf("Compare(%.40q, %.40q) = %d, not %d", a, b, got, want)
	}
	if got := label.Compare(b, a); got != -want {
		t.Errorf("Compare(%.40q, %.40q) = %d, not %d", b, a, got, -want)
	}
}

// P3.2
func TestCompare(t *testing.T) {
	for _, c := range []struct {
		a, b string
		want int
	}{
		{"", "", 0}, {"a", "a", 0}, {"αβ-1", "αβ-1", 0},
		{"", "a", -1}, {"", "\x00", -1}, {"a", "aa", -1}, {"a", "a\x00", -1}, {"α", "αa", -1}, {"a", "a-", -1},
		{"a", "b", -1}, {"a", "z", -1}, {"z", "α", -1}, {"α", "β", -1}, {"α", "ω", -1},
		{"az", "b", -1}, {"aaa", "ab", -1}, {"zzz", "α", -1}, {"aaaz", "aab", -1},
		{"a-", "a0", -1}, {"a9", "aa", -1}, {"a10", "a9", -1}, {"A", "a", -1}, {"\x00", "-", -1},
		{"\x7f", "\u0080", -1}, {"\u07ff", "\u0800", -1}, {"\uffff", "\U00010000", -1}, {"\ue000", "\U0001f600", -1}, // as numbers, not in halves
	} {
		both(t, c.a, c.b, c.want)
	}
}

// P3.2: bytes that are no rune are 65533, one byte each, whatever the bytes.
func TestCompareOfBytesThatAreNoRune(t *testing.T) {
	for _, c := range []struct {
		a, b string
		want int
	}{
		{"\xff", "\xfe", 0}, {"\xff", "\x80", 0}, {"\xff", "\ufffd", 0}, {"\xff\xfe", "\xc1\xa1", 0}, {"a\xed\xa0\x80", "a\xff\ufffd\x80", 0},
		{"\xff", "\U0001f600", -1}, {"\xff", "\ufffe", -1}, {"\xff", "\ufffc", 1}, {"\x80", "é", 1}, {"\x80", "a", 1}, {"\x80", "ω", 1},
		{"\xe2\x82", "€", 1}, {"\xce", "α", 1}, // what is begun is no rune
		{"\xff", "\xff\xff", -1}, {"\ufffd", "\xff\xff", -1}, {"\ufffd\ufffd", "\x80", 1}, // how many runes, not bytes
		{"\xffa", "\ufffdb", -1}, {"\xffb", "\xfea", 1}, {"\xff", "\ufffda", -1},
	} {
		both(t, c.a, c.b, c.want)
	}
}

// P3.2: all samples, two by two, held against their lists of runes.
func TestCompareOfManyTexts(t *testing.T) {
	for _, a := range samples() {
		for _, b := range samples() {
			both(t, a, b, slices.Compare([]rune(a), []rune(b)))
		}
	}
	long := strings.Repeat("ω-", 3000)
	both(t, long, long, 0)
	both(t, long+"a", long+"b", -1)
	both(t, long, long+"a", -1)
}

// P3.3: names that may be stand to one another as their bytes do.
func TestCompareOfNamesIsTheirBytes(t *testing.T) {
	var names []string
	for _, s := range samples() {
		if label.Fit(s) {
			names = append(names, s)
		}
	}
	runes := []string{"a", "z", "α", "π", "ω", "0", "9", "-"}
	for _, x := range runes[:5] {
		for _, y := range runes {
			for _, z := range runes {
				names = append(names, x+y, x+y+z)
			}
		}
	}
	for _, a := range names {
		if !label.Fit(a) {
			t.Fatalf("%q is no name that may be", a)
		}
		for _, b := range names {
			both(t, a, b, strings.Compare(a, b))
		}
	}
}
