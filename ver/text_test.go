package ver_test

import (
	"fmt"
	"strings"
	"testing"
	"unicode/utf8"
	"unsafe"

	"comprador/ver"
)

// noText fails, if a text is read as a version's.
func noText(t *testing.T, s string) {
	t.Helper()
	if place, ok := ver.Read(s); place != 0 || ok {
		t.Errorf("Read(%.60q) = %d, %v", s, place, ok)
	}
}

// P5.2
func TestText(t *testing.T) {
	for _, c := range []struct {
		place int
		want  string
	}{
		{0, "0.0.0"}, {1, "0.0.1"}, {10, "0.0.10"}, {999, "0.0.999"}, {1000, "0.1.0"}, {1000000, "1.0.0"}, {1002003, "1.2.3"},
		{10020030, "10.20.30"}, {100200300, "100.200.300"}, {999000000, "999.0.0"}, {999999999, "999.999.999"}, {100000001, "100.0.1"}, {1010, "0.1.10"},
	} {
		if got := ver.Text(c.place); got != c.want {
			t.Errorf("Text(%d) = %q, not %q", c.place, got, c.want)
		}
		if got, ok := ver.Read(c.want); got != c.place || !ok {
			t.Errorf("Read(%q) = %d, %v, not %d", c.want, got, ok, c.place)
		}
	}
}

// P5.2
func TestTextOfNoPlace(t *testing.T) {
	for _, place := range nowhere {
		if got := ver.Text(place); got != "" {
			t.Errorf("Text(%d) = %q", place, got)
		}
	}
}

// P5.2, P5.3: what is written is the parts, and it is read as it was written; of each version there is one text.
func TestTextsAreReadAsWritten(t *testing.T) {
	texts := map[string]bool{}
	for _, parts := range versions() {
		place := placed(t, parts)
		s := ver.Text(place)
		if want := fmt.Sprintf("%d.%d.%d", parts[0], parts[1], parts[2]); s != want {
			t.Errorf("Text(%d) = %q, not %q", place, s, want)
		}
		if got, ok := ver.Read(s); got != place || !ok {
			t.Errorf("Read(%q) = %d, %v, not %d", s, got, ok, place)
		}
		if texts[s] {
			t.Errorf("Text(%d) = %q, as of another place", place, s)
		}
		texts[s] = true
	}
	for place := 0; place < 1000000000; place += 10007 {
		if got, ok := ver.Read(ver.Text(place)); got != place || !ok {
			t.Fatalf("Read(%q) = %d, %v, not %d", ver.Text(place), got, ok, place)
		}
	}
}

// P5.2: texts that are no version's.
func TestReadOfNoText(t *testing.T) {
	for _, s := range []string{
		"", "0", "1", "1.2", "0.0", "1.2.", "1.2.3.", "1.2.3.4", "0.0.0.0", "1.2.3..", ".1.2.3", "..", ".", "...", "....", "1..3", "1..", "..1", ".1.", ".2.3", "1..2.3", "1.2..3",
		"01.2.3", "1.02.3", "1.2.03", "00.0.0", "0.00.0", "0.0.00", "000.0.0", "0.0.000", "1.2.0003", "0999.0.0", "0.0.0999", // a 0 ahead of others
		"1000.0.0", "0.1000.0", "0.0.1000", "0.0.9999", "1000.1000.1000", "0.999.1000", "0.0.1002003", // above what a part may be
		"4294967296.0.0", "4294967297.0.0", "0.4294967297.0", "0.0.4294967299", "18446744073709551616.0.0", "18446744073709551617.2.3", "0.0.18446744073709551617", "36893488147419103233.0.0", "0.0.-18446744073709551615",
		"+1.2.3", "1.+2.3", "1.2.+3", "-1.2.3", "1.-2.3", "1.2.-3", "-0.0.0", "0.0.-0", "1.2.3-1", "1.2.3+1", "--1.0.0",
		" 1.2.3", "1.2.3 ", "1. 2.3", "1 .2.3", "1.2.3\n", "\n1.2.3", "1.2.3\x00", "\x001.2.3", "1.\t2.3", "1 2 3",
		"v1.2.3", "=1.2.3", "^1.2.3", "1.2.x", "a.b.c", "1.2.3a", "1,2,3", "1.2,3", "1:2:3", "1/2/3", "1.2:3", "1_0.2.3", "1.2.3_0", "0x1.2.3", "1e1.2.3", "1.0.0x1f", "any", "none", "1.2.*",
		"١.2.3", "1.2.３", "１.２.３", "1．2．3", "1.2.³", "1·2·3", "1。2。3", "1.2.\U0001d7ce", "1.2.\ufffd", "é.0.0",
		"\xff", "1.2.3\xff", "\xff1.2.3", "1.\xb2.3", "1.2\xff3", "\x801.2.3", "1\xe2\x80\xa42.3",
		"/.0.0", ":.0.0", "0./.0", "0.0./", "0.0.1/", "0.1:.0", "0.0.5:", "0.0./0", "1/.0.0", // runes next to the digits, which come to numbers too
	} {
		noText(t, s)
	}
}

// P5.2: very long texts; what is too much goes round, or is 0.
func TestReadOfLongTexts(t *testing.T) {
	for _, n := range []int{4, 5, 10, 20, 21, 64, 65, 1000, 1 << 20} {
		for _, c := range []string{"0", "1", "9", ".", "1.", ".0", " ", "ω"} {
			long := strings.Repeat(c, n)
			noText(t, long)
			noText(t, long+"1.2.3")
			noText(t, long+".2.3")
			noText(t, "1."+long+".3")
			noText(t, "1.2."+long)
			noText(t, "1.2.3"+long)
			noText(t, "1.2.3."+long)
		}
		// With 64 digits behind it and more, it goes round to what these are alone.
		noText(t, "1"+strings.Repeat("0", n)+".0.0")
		noText(t, "0.0.1"+strings.Repeat("0", n)+"7")
	}
}

// P5.2: each rune there is, in the place of each part, behind a digit of it, and in the place of each dot.
func TestReadOfEachRune(t *testing.T) {
	for r := rune(0); r <= utf8.MaxRune; r++ {
		s := string(r)
		digit := int(r - 48)
		if digit < 0 || digit > 9 {
			digit = -1
		}
		for _, c := range []struct {
			s          string
			base, unit int
		}{
			{s + ".7.8", 7008, 1000000}, {"6." + s + ".8", 6000008, 1000}, {"6.7." + s, 6007000, 1},
			{"1" + s + ".7.8", 10007008, 1000000}, {"6.1" + s + ".8", 6010008, 1000}, {"6.7.1" + s, 6007010, 1},
		} {
			want := c.base + digit*c.unit
			if digit < 0 {
				want = 0
			}
			if got, ok := ver.Read(c.s); got != want || ok != (digit >= 0) {
				t.Errorf("Read(%q), rune %d, = %d, %v", c.s, r, got, ok)
			}
		}
		if r != '.' {
			noText(t, "1"+s+"2.3")
			noText(t, "1.2"+s+"3")
			noText(t, "1"+s+"2"+s+"3")
		}
	}
}

// P5.2, P5.3: all texts of up to 8 bytes out of 6, held against those that the versions have.
func TestReadOfAllShortTexts(t *testing.T) {
	part := map[string]int{}
	for n := range 1000 {
		part[fmt.Sprint(n)] = n
	}
	read := 0
	var all func(s string)
	all = func(s string) {
		want, is := 0, false
		if l := strings.Split(s, "."); len(l) == 3 {
			a, ok1 := part[l[0]]
			b, ok2 := part[l[1]]
			c, ok3 := part[l[2]]
			if ok1 && ok2 && ok3 {
				want, is = a*1000000+b*1000+c, true
				read++
			}
		}
		if got, ok := ver.Read(s); got != want || ok != is {
			t.Errorf("Read(%q) = %d, %v, not %d, %v", s, got, ok, want, is)
		}
		if is && ver.Text(want) != s {
			t.Errorf("Text(%d) = %q, not %q", want, ver.Text(want), s)
		}
		if len(s) < 8 {
			for _, c := range "019./\xff" {
				all(s + string(c))
			}
		}
	}
	all("")
	if read < 1000 {
		t.Errorf("of the texts only %d are versions'", read)
	}
}

// 0.5: what is answered is new memory.
func TestTextSharesNoMemory(t *testing.T) {
	a, b := ver.Text(1002003), ver.Text(1002003)
	if unsafe.StringData(a) == unsafe.StringData(b) {
		t.Errorf("two answers share memory")
	}
}
