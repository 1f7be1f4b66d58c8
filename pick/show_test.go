package pick_test

import (
	"regexp"
	"strconv"
	"strings"
	"testing"

	"comprador/api"
	"comprador/label"
	"comprador/pick"
)

// P15.2
func TestShow(t *testing.T) {
	for _, c := range []struct {
		l    []api.Pick
		want string
	}{
		{nil, "nothing"}, {[]api.Pick{}, "nothing"}, {list(of("a", 0)), "a 0.0.0"}, {list(of("a", 1000000)), "a 1.0.0"}, {list(of("a", 1002003)), "a 1.2.3"}, {list(of("a", 999999999)), "a 999.999.999"}, {list(of("nothing", 5)), "nothing 0.0.5"},
		{list(of("a", 1000000), of("b", 2001000)), "a 1.0.0, b 2.1.0"}, {list(of("α-1", 10020030), of("αβγδεζηθικλμ", 7)), "α-1 10.20.30, αβγδεζηθικλμ 0.0.7"}, {list(of("a", 1), of("a-", 1000), of("a0", 1000000), of("z", 0)), "a 0.0.1, a- 0.1.0, a0 1.0.0, z 0.0.0"},
	} {
		if got := pick.Show(c.l); got != c.want {
			t.Errorf("Show(%v) = %q, not %q", c.l, got, c.want)
		}
	}
	for _, l := range mayBe {
		if got := pick.Show(l); got != shown(l) {
			t.Errorf("Show(%.200v) = %.200q, not %.200q", l, got, shown(l))
		}
	}
}

// P15.2: picks that may not be.
func TestShowOfOthers(t *testing.T) {
	for _, l := range mayNot {
		if got := pick.Show(l); got != "" {
			t.Errorf("Show(%.200v) = %.200q", l, got)
		}
	}
}

// shown is the text of picks that may be, put together another way.
func shown(l []api.Pick) string {
	s := "nothing"
	for i, p := range l {
		if i == 0 {
			s = ""
		} else {
			s += ", "
		}
		s += p.Name + " " + strconv.Itoa(p.Ver/1000000) + "." + strconv.Itoa(p.Ver/1000%1000) + "." + strconv.Itoa(p.Ver%1000)
	}
	return s
}

// readAs fails, if a text is not read as picks.
func readAs(t *testing.T, s string, want []api.Pick) {
	t.Helper()
	if got, ok := pick.Read(s); !ok || !alike(got, want) {
		t.Errorf("Read(%.80q) = %.200v, %v, not %.200v", s, got, ok, want)
	}
}

// isNone fails, if a text is read.
func isNone(t *testing.T, s string) {
	t.Helper()
	if got, ok := pick.Read(s); ok || got != nil {
		t.Errorf("Read(%.80q) = %.200v, %v", s, got, ok)
	}
}

// P15.2
func TestRead(t *testing.T) {
	for _, c := range []struct {
		s    string
		want []api.Pick
	}{
		{"nothing", nil}, {"a 0.0.0", list(of("a", 0))}, {"a 1.2.3", list(of("a", 1002003))}, {"a 999.999.999", list(of("a", 999999999))}, {"nothing 1.0.0", list(of("nothing", 1000000))}, {"α-1 10.0.10", list(of("α-1", 10000010))},
		{"a 1.0.0, b 2.1.0", list(of("a", 1000000), of("b", 2001000))}, {"a 0.0.1, a- 0.0.1, a0 0.0.1, aa 0.0.1, α 0.0.1", list(of("a", 1), of("a-", 1), of("a0", 1), of("aa", 1), of("α", 1))}, {"a 1.0.0, nothing 2.0.0", list(of("a", 1000000), of("nothing", 2000000))},
	} {
		readAs(t, c.s, c.want)
	}
}

// P15.2: texts that are no picks'.
func TestReadOfOthers(t *testing.T) {
	for _, s := range []string{
		"", " ", ",", ", ", "\n", "\x00", "\xff", "a", "1.0.0", " 1.0.0", "a ", "a,", "a, b", "any", "none",
		// nothing, and what is like it
		"nothing ", " nothing", "Nothing", "NOTHING", "nothin", "nothingg", "nothing, ", "nothing,", ", nothing", "nothing, nothing", "nothing, a 1.0.0", "a 1.0.0, nothing", "nothing\n", "nothing\x00",
		// blanks and commas
		"a  1.0.0", " a 1.0.0", "a 1.0.0 ", "a1.0.0", "a\t1.0.0", "a 1.0.0\n", "a\u00a01.0.0", "a 1.0.0,", "a 1.0.0, ", ", a 1.0.0", ",a 1.0.0", "a 1.0.0,b 1.0.0", "a 1.0.0,  b 1.0.0", "a 1.0.0 , b 1.0.0", "a 1.0.0 b 1.0.0", "a 1.0.0,, b 1.0.0", "a 1.0.0, , b 1.0.0", "a 1.0.0; b 1.0.0", "a 1.0.0,\nb 1.0.0", "a, 1.0.0", "a ,1.0.0", "a 1.0.0, b 1.0.0, ", "a 1.0.0, b 1.0.0,", "a 1.0.0, b", "a, b 1.0.0", "a b 1.0.0", "a 1.0.0 1.0.0", "a =1.0.0", "a any", "1.0.0 a",
		// versions
		"a 1", "a 1.0", "a 1.0.0.0", "a 1.0.", "a .0.0", "a 1..0", "a ..", "a 01.0.0", "a 1.00.0", "a 1.0.00", "a 1.0.01", "a 1000.0.0", "a 1.1000.0", "a 1.0.1000", "a -1.0.0", "a +1.0.0", "a 1.-1.0", "a 1,0,0", "a 1.0.x", "a x.0.0", "a ١.0.0", "a 1.0.0x", "a v1.0.0", "a 1000000", "a 1e1.0.0", "a 18446744073709551617.0.0", "a 4294967297.0.0",
		// names
		"A 1.0.0", "1a 1.0.0", "-a 1.0.0", "a_ 1.0.0", "a. 1.0.0", "é 1.0.0", "Ω 1.0.0", "\xff 1.0.0", "a\xce 1.0.0", "abcdefghijklm 1.0.0", "αβγδεζηθικλμν 1.0.0", "a 1.0.0, B 1.0.0", "A 1.0.0, b 1.0.0", "a 1.0.0,  1.0.0", "a 1.0.0, b 1.0.0, 1 1.0.0", "a 1.0.0, abcdefghijklm 1.0.0",
		// names that do not rise
		"a 1.0.0, a 1.0.0", "a 1.0.0, a 2.0.0", "b 1.0.0, a 1.0.0", "aa 1.0.0, a 1.0.0", "a0 1.0.0, a- 1.0.0", "α 1.0.0, z 1.0.0", "a 1.0.0, c 1.0.0, b 1.0.0", "b 1.0.0, a 1.0.0, c 1.0.0", "a 1.0.0, b 1.0.0, b 1.0.0", "a 1.0.0, b 1.0.0, a 1.0.0",
	} {
		isNone(t, s)
	}
	for _, l := range mayNot {
		isNone(t, shown(l))
	}
}

// The form of a text, and of one pick in it.
var (
	whole = regexp.MustCompile(`^[a-zα-ω][-0-9a-zα-ω]{0,11} [0-9.]+(, [a-zα-ω][-0-9a-zα-ω]{0,11} [0-9.]+)*$`)
	part  = regexp.MustCompile(`([a-zα-ω][-0-9a-zα-ω]*) (0|[1-9][0-9]{0,2})\.(0|[1-9][0-9]{0,2})\.(0|[1-9][0-9]{0,2})(?:, |$)`)
)

// second reads a text another way.
func second(s string) ([]api.Pick, bool) {
	if s == "nothing" {
		return nil, true
	}
	if !whole.MatchString(s) || len(s) > 4000 {
		return nil, false
	}
	var l []api.Pick
	read := ""
	for _, m := range part.FindAllStringSubmatch(s, -1) {
		place := 0
		for _, digits := range m[2:] {
			n, _ := strconv.Atoi(digits)
			place = place*1000 + n
		}
		if len(l) > 0 && m[1] <= l[len(l)-1].Name {
			return nil, false
		}
		l = append(l, of(m[1], place))
		read += m[0]
	}
	if read != s {
		return nil, false
	}
	return l, true
}

// readAsSecond fails, if a text is not read as the other way to read it does; it tells whether it is one of picks.
func readAsSecond(t *testing.T, s string) bool {
	t.Helper()
	want, also := second(s)
	got, ok := pick.Read(s)
	if ok != also || !alike(got, want) || !ok && got != nil {
		t.Fatalf("Read(%q) = %v, %v, not %v, %v", s, got, ok, want, also)
	}
	return ok
}

// P15.2: all texts of up to some parts, held against another way to read them.
func TestReadOfAllShortTexts(t *testing.T) {
	parts := []string{"a", "b", "α", "-", " ", ", ", ",", "1.0.0", "0.0.10", "01.0.0", ".", "nothing"}
	texts := []string{""}
	var short []string
	one, two := 0, 0
	for n := range 6 {
		var longer []string
		for _, s := range texts {
			if readAsSecond(t, s) {
				one++
			}
			for _, p := range parts {
				longer = append(longer, s+p)
			}
		}
		if n <= 3 {
			short = append(short, texts...)
		}
		texts = longer
	}
	// Those of two picks have seven parts at least: three, a comma, and three.
	for _, x := range short {
		for _, y := range []string{"a 1.0.0", "b 0.0.10", "b- 1.0.0", "α 1.0.0", "nothing 1.0.0"} {
			for _, s := range []string{x + ", " + y, y + ", " + x} {
				if readAsSecond(t, s) {
					two++
				}
			}
		}
	}
	if one < 100 || two < 30 {
		t.Errorf("%d of them were read, and %d with another one", one, two)
	}
}

// P15.2: each text of picks with a byte that is another one, gone, or come.
func TestReadOfSpoiltTexts(t *testing.T) {
	good := 0
	tries := func(s string) {
		t.Helper()
		if readAsSecond(t, s) {
			good++
		}
		if got, ok := pick.Read(s); ok != (s != "" && pick.Show(got) == s) {
			t.Fatalf("Read(%q) = %v, %v, whose text is %q", s, got, ok, pick.Show(got))
		}
	}
	for _, s := range []string{"nothing", "a 1.0.0", "a 1.0.0, b 2.1.0", "α-1 999.0.10, αβγδεζηθικλμ 0.90.999", "a 0.0.0, a- 0.0.9, a0 10.0.0, aa 1.2.3"} {
		tries(s)
		for i := range len(s) + 1 {
			for b := range 256 {
				c := string([]byte{byte(b)})
				tries(s[:i] + c + s[i:])
				if i < len(s) {
					tries(s[:i] + c + s[i+1:])
				}
			}
			if i < len(s) {
				tries(s[:i] + s[i+1:])
			}
			tries(s[:i])
			tries(s[i:])
			tries(s[i:] + s[:i])
		}
	}
	if good < 500 {
		t.Errorf("%d of them were read", good)
	}
}

// P15.3: what is shown of at most 100 picks is read as it was.
func TestShownIsRead(t *testing.T) {
	for _, l := range mayBe {
		if len(l) <= 100 {
			readAs(t, pick.Show(l), l)
		}
	}
	seed := uint32(1)
	for n := range 101 {
		var l []api.Pick
		for i, name := range letters(n) {
			seed = seed*1664525 + 1013904223
			l = append(l, of(name, []int{0, 999999999, int(seed>>2) % 1000000000, int(seed>>8) % 1000 * 1000}[(n+i)%4]))
		}
		readAs(t, pick.Show(l), l)
	}
}

// P15.3: the longest text there is of 100 picks is not too long.
func TestTheLongestIsRead(t *testing.T) {
	var l []api.Pick
	for i := range 100 {
		first := string([]rune{rune(945 + i/10), rune(945 + i%10)})
		l = append(l, of(first+strings.Repeat("ω", 10), 999999999-i%2*111111111))
	}
	s := pick.Show(l)
	if !label.Fit(l[99].Name) || len(s) != 100*(24+1+11+2)-2 {
		t.Fatalf("Show(%.200v) has %d bytes", l, len(s))
	}
	readAs(t, s, l)
}

// exact are picks whose text has n bytes, n from 200 on, the last of which have names of Greek letters, two bytes each.
func exact(n, greek int) []api.Pick {
	const piece, widest = len("aaaa 1.0.0, "), 24 + len(" 999.999.999, ")
	left := n + len(", ") - greek*widest
	names := letters(left / piece)
	var l []api.Pick
	for i, name := range names {
		if i < left%piece {
			name += "z"
		}
		l = append(l, of(name, 1000000))
	}
	for i := range greek {
		l = append(l, of(string([]rune{rune(945 + i/10), rune(945 + i%10)})+strings.Repeat("ω", 10), 999999999))
	}
	return l
}

// P15.2: a text of just so many bytes as it may have is read, and none that has more.
func TestTheBoundOfBytes(t *testing.T) {
	for _, greek := range []int{0, 1, 50, 100} {
		for n := 3990; n <= 4010; n++ {
			l := exact(n, greek)
			s := pick.Show(l)
			if len(s) != n || s != shown(l) {
				t.Fatalf("with %d of Greek letters a text has %d bytes, not %d", greek, len(s), n)
			}
			if n <= 4000 {
				readAs(t, s, l)
			} else {
				isNone(t, s)
			}
		}
	}
	for n := 4096; n <= 1<<16; n *= 2 {
		isNone(t, pick.Show(exact(n, 0)))
		isNone(t, pick.Show(exact(n, 20)))
	}
	isNone(t, strings.Repeat(" ", 4001))
	isNone(t, "nothing"+strings.Repeat(" ", 4000))
	isNone(t, strings.Repeat("a 1.0.0, ", 1<<16))
}
