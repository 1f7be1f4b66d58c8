package label_test

import (
	"math"
	"strings"
	"testing"
	"unicode/utf8"
	"unsafe"

	"comprador/label"
)

// P3.2
func TestClip(t *testing.T) {
	for _, c := range []struct {
		s    string
		n    int
		want string
	}{
		{"αβ", 1, "α"}, {"αβ", 2, "αβ"}, {"αβ", 3, "αβ"}, {"αβ", math.MaxInt, "αβ"},
		{"αβ", 0, ""}, {"αβ", -1, ""}, {"αβ", math.MinInt, ""}, {"αβ", math.MinInt + 1, ""},
		{"", 0, ""}, {"", 1, ""}, {"", -1, ""}, {"", math.MaxInt, ""}, {"", math.MinInt, ""},
		{"abc", 1, "a"}, {"abc", 2, "ab"}, {"abc", 3, "abc"},
		{"aαb€c\U0001f600d", 2, "aα"}, {"aαb€c\U0001f600d", 4, "aαb€"}, {"aαb€c\U0001f600d", 6, "aαb€c\U0001f600"},
		{"e\u0301x", 1, "e"}, {"\x00\x00", 1, "\x00"},
		{"\xff\xfeα", 1, "\xff"}, {"\xff\xfeα", 2, "\xff\xfe"}, {"\xff\xfeα", 3, "\xff\xfeα"}, // the bytes, as they are
		{"\xe2\x82", 1, "\xe2"}, {"\xe2\x82a", 2, "\xe2\x82"}, {"\xed\xa0\x80", 2, "\xed\xa0"}, {"α\xb1β", 2, "α\xb1"},
		{"\ufffd\xff", 1, "\ufffd"},
		{"-1A?", 3, "-1A"},
	} {
		if got := label.Clip(c.s, c.n); got != c.want {
			t.Errorf("Clip(%q, %d) = %q, not %q", c.s, c.n, got, c.want)
		}
	}
}

// P3.2: rune by rune, of any texts; what is clipped of a text are the bytes that it begins with.
func TestClipOfManyTexts(t *testing.T) {
	for _, s := range samples() {
		at := 0
		for n := range utf8.RuneCountInString(s) + 1 {
			if got := label.Clip(s, n); got != s[:at] {
				t.Fatalf("Clip(%.40q, %d) = %.40q", s, n, got)
			}
			_, size := utf8.DecodeRuneInString(s[at:])
			at += size
		}
		for _, n := range []int{utf8.RuneCountInString(s) + 1, len(s) + 1, 1 << 40, math.MaxInt} {
			if got := label.Clip(s, n); got != s {
				t.Errorf("Clip(%.40q, %d) = %.40q", s, n, got)
			}
		}
		for _, n := range []int{0, -1, -len(s), math.MinInt} {
			if got := label.Clip(s, n); got != "" {
				t.Errorf("Clip(%.40q, %d) = %.40q", s, n, got)
			}
		}
	}
}

// P3.3: what is clipped of a name that may be, with n at least 1, may be; with less it may not.
func TestClipOfNames(t *testing.T) {
	for _, s := range samples() {
		if !label.Fit(s) {
			continue
		}
		for n := 1; n <= 14; n++ {
			got := label.Clip(s, n)
			if !label.Fit(got) || label.Size(got) != min(n, label.Size(s)) || !strings.HasPrefix(s, got) {
				t.Errorf("Clip(%q, %d) = %q", s, n, got)
			}
		}
		if label.Fit(label.Clip(s, 0)) {
			t.Errorf("Clip(%q, 0) = %q", s, label.Clip(s, 0))
		}
	}
}

// P3.2, 0.5: what is answered is new memory, cut or whole.
func TestClipSharesNoMemory(t *testing.T) {
	s := strings.Repeat("αβ", 20)
	for _, n := range []int{1, 39, 40, 41} {
		if unsafe.StringData(label.Clip(s, n)) == unsafe.StringData(s) {
			t.Errorf("Clip(.., %d) shares memory with what was given", n)
		}
	}
}
