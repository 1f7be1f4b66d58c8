package label_test

import (
	"strings"
	"testing"
	"unicode/utf8"

	"comprador/api"
	"comprador/label"
)

// place is where Marks counts a rune, by the chapter's words; -1, if it does not.
func place(r rune) int {
	for i, bounds := range [4][2]rune{{97, 122}, {945, 969}, {48, 57}, {45, 45}} {
		if bounds[0] <= r && r <= bounds[1] {
			return i
		}
	}
	return -1
}

// odd are texts that are no names that may be, whatever their length, and stay so ahead of, behind and within one.
var odd = []string{
	"A", "Z", "_", ".", "/", ":", ",", "`", "{", " ", "\n", "\x00", "@", "\x7f",
	"Α", "Ω", "ΰ", "ϊ", "ά", "é", "ß", "ﬁ", "ａ", "а", // Greek, Latin and Cyrillic ones that are no letters here
	"٣", "²", "５", "‐", "–", "−", // digits and hyphens of other kinds
	"\u0301", "\ufffd", "\U0001f600", "\U0010ffff",
	"\xff", "\x80", "\xb1", "\xce", "\xe2\x82", "\xc1\xa1", "\xed\xa0\x80", "\xf4\x90\x80\x80", // bytes that are no rune
}

// samples are texts of several kinds: the names that may be, and others.
func samples() []string {
	l := []string{
		"", "a", "b", "z", "α", "β", "ω", "ς", "aa", "ab", "aα", "αa", "αβ", "a-", "a--", "a0", "a9", "α-1", "β-1",
		"abcdefghijkl", "abcdefghijklm", "αβγδεζηθικλμ", "αβγδεζηθικλμν", "a-1-α-9-ω-0z", "a-1-α-9-ω-0z0",
		"-", "--", "0", "1a", "-a", "9α", "\xff\xfe", "\xffa", "a\xff", "\xff\ufffd", "\ufffd\ufffd", "\U0001f600\xff",
		strings.Repeat("a", 400), strings.Repeat("ω", 400), strings.Repeat("\xff", 400), strings.Repeat("\U0001f600", 400),
	}
	for _, s := range odd {
		l = append(l, s, "a"+s, s+"a", "α"+s+"β")
	}
	return l
}

// P3.1
func TestFit(t *testing.T) {
	for _, s := range []string{
		"a", "z", "m", "α", "ω", "ς", "μ", "α-1", "a-", "a--", "a0", "a9", "z-0", "ω-", "aα", "αa", "abc", "a-b-c", "a1b2",
		"abcdefghijkl", "αβγδεζηθικλμ", "a-1-α-9-ω-0z", "a-----------", "a00000000000", "ωωωωωωωωωωωω", // 12 runes; of the Greek ones 24 bytes
		"αβγδεζηθικλ", "abcdefghijk",
	} {
		if !label.Fit(s) {
			t.Errorf("Fit(%q) = false", s)
		}
	}
	for _, s := range []string{
		"", "1a", "-a", "0", "9", "-", "--", "-1", "1α", "-α", // the first one is no letter
		"abcdefghijklm", "αβγδεζηθικλμν", "a-1-α-9-ω-0z0", "a------------", strings.Repeat("a", 24), strings.Repeat("ω", 4000), // too many
	} {
		if label.Fit(s) {
			t.Errorf("Fit(%q) = true", s)
		}
	}
}

// P3.1: at each place of a name a rune that may not be there makes it one that may not be.
func TestFitOfOddRunes(t *testing.T) {
	for _, s := range odd {
		for _, name := range []string{s, s + "a", s + "α", "a" + s, "α" + s, "a" + s + "b", "α" + s + "-1", "a-1-α-9" + s} {
			if label.Fit(name) {
				t.Errorf("Fit(%q) = true", name)
			}
		}
	}
}

// P3.1: each rune there is, as the first one of a name, and as the second one.
func TestFitOfEachRune(t *testing.T) {
	for r := rune(0); r <= utf8.MaxRune; r++ {
		s, k := string(r), place(r)
		if utf8.RuneLen(r) < 0 { // no rune: told as 65533
			k = -1
		}
		if label.Fit(s) != (k == 0 || k == 1) {
			t.Errorf("Fit(%q), rune %d, = %v", s, r, label.Fit(s))
		}
		if label.Fit("a"+s) != (k >= 0) || label.Fit("ω"+s+"9") != (k >= 0) {
			t.Errorf("Fit(%q), rune %d, = %v", "a"+s, r, label.Fit("a"+s))
		}
	}
}

// P3.1: of each length up to two beyond the greatest.
func TestFitHangsOnRunesNotOnBytes(t *testing.T) {
	for _, r := range []string{"a", "ω"} {
		for n := range api.MaxName + 3 {
			if got := label.Fit(strings.Repeat(r, n)); got != (n >= 1 && n <= api.MaxName) {
				t.Errorf("Fit of %d of %s = %v", n, r, got)
			}
		}
	}
	if n := len("αβγδεζηθικλμ"); n != api.MaxBytes {
		t.Errorf("the longest name has %d bytes", n)
	}
}

// P3.1
func TestSize(t *testing.T) {
	for _, c := range []struct {
		s    string
		want int
	}{
		{"", 0}, {"a", 1}, {"α", 1}, {"αβ", 2}, {"a-1", 3}, {"\x00", 1}, {"\x00\x00", 2},
		{"€", 1}, {"\U0001f600", 1}, {"e\u0301", 2}, {"\ufffd", 1},
		{"\xff", 1}, {"\xff\xff", 2}, {"\xe2\x82", 2}, {"\xe2\x82a", 3}, {"\xf0\x9f\x98", 3}, // no rune: one byte each
		{"\xc1\xa1", 2}, {"\xed\xa0\x80", 3}, {"\xf4\x90\x80\x80", 4}, {"\xceα", 2}, {"α\xb1", 2},
		{strings.Repeat("a", 5000), 5000}, {strings.Repeat("ω", 5000), 5000}, {strings.Repeat("\xff", 5000), 5000},
	} {
		if got := label.Size(c.s); got != c.want {
			t.Errorf("Size(%.40q) = %d, not %d", c.s, got, c.want)
		}
	}
}

// P3.1
func TestMarks(t *testing.T) {
	for _, c := range []struct {
		s    string
		want [4]int
	}{
		{"", [4]int{}},
		{"a", [4]int{1, 0, 0, 0}},
		{"α", [4]int{0, 1, 0, 0}},
		{"0", [4]int{0, 0, 1, 0}},
		{"-", [4]int{0, 0, 0, 1}},
		{"α-1", [4]int{0, 1, 1, 1}},
		{"1a", [4]int{1, 0, 1, 0}},
		{"abcαβ12345-", [4]int{3, 2, 5, 1}},
		{"-1α-2β-aςω", [4]int{1, 4, 2, 3}},
		{"azαω09-", [4]int{2, 2, 2, 1}},
		{"`{/:,.AZ_ΑΩΰϊé٣–\x00\ufffd\U0001f600", [4]int{}},
		{"\xff\xce\xb1\xb1\xe2\x82z", [4]int{1, 1, 0, 0}}, // of bytes that are no rune none is counted
		{strings.Repeat("aβ0-?", 1000), [4]int{1000, 1000, 1000, 1000}},
	} {
		if got := label.Marks(c.s); got != c.want {
			t.Errorf("Marks(%.40q) = %v, not %v", c.s, got, c.want)
		}
	}
}

// P3.1: each rune there is.
func TestMarksOfEachRune(t *testing.T) {
	for r := rune(0); r <= utf8.MaxRune; r++ {
		want := [4]int{}
		if k := place(r); k >= 0 {
			want[k] = 1
		}
		if got := label.Marks(string(r)); got != want {
			t.Errorf("Marks(%q), rune %d, = %v, not %v", string(r), r, got, want)
		}
	}
}

// P3.3: of Marks there are together as many as runes, of names that may be; of others no more.
func TestMarksTogether(t *testing.T) {
	names := 0
	for _, s := range samples() {
		sum := 0
		for _, n := range label.Marks(s) {
			sum += n
		}
		if sum > label.Size(s) {
			t.Errorf("Marks(%.40q) = %v, of %d runes", s, label.Marks(s), label.Size(s))
		}
		if label.Fit(s) {
			names++
			if sum != label.Size(s) {
				t.Errorf("Marks(%q) = %v, of %d runes", s, label.Marks(s), label.Size(s))
			}
		}
	}
	if names < 15 {
		t.Errorf("of the samples only %d are names that may be", names)
	}
}
