package rule_test

import (
	"regexp"
	"slices"
	"strings"
	"testing"

	"comprador/api"
	"comprador/rule"
	"comprador/span"
)

// readAs fails, if a text is not read as a set.
func readAs(t *testing.T, s string, want []api.Span) {
	t.Helper()
	if got, at, e := rule.Read(s); !slices.Equal(got, want) || at != 0 || e != api.OK {
		t.Errorf("Read(%q) = %v, %d, %d, not %v", s, got, at, e, want)
	}
}

// wrongAt fails, if of a text another error is told, or another place.
func wrongAt(t *testing.T, s string, at int, e api.Errno) {
	t.Helper()
	if got, place, f := rule.Read(s); got != nil || place != at || f != e {
		t.Errorf("Read(%q) = %v, %d, %d, not at %d, %d", s, got, place, f, at, e)
	}
}

// P7.2
func TestRead(t *testing.T) {
	for _, c := range []struct {
		s    string
		want []api.Span
	}{
		{"any", spans(0, 1000000000)}, {"none", nil}, {"=1.2.3", spans(1002003, 1002004)},
		{"^1.2.0 <1.5.0 | =3.0.0", spans(1002000, 1005000, 3000000, 3000001)},
		{">=1.0.0 <2.0.0", spans(1000000, 2000000)}, {"<2.0.0 >=1.0.0", spans(1000000, 2000000)}, {">1.0.0 <=2.0.0", spans(1000001, 2000001)},
		{"~1.2.0 ^1.2.5", spans(1002005, 1003000)}, {"<2.0.0 <3.0.0 <1.0.0 <4.0.0", spans(0, 1000000)}, {">=1.0.0 >=1.0.0", spans(1000000, 1000000000)},
		{"=1.0.0 =2.0.0", nil}, {"<1.0.0 >1.0.0", nil}, {"<0.0.0", nil}, {">999.999.999", nil}, {"<0.0.0 | >999.999.999", nil},
		{"none | none", nil}, {"none | any", spans(0, 1000000000)}, {"any | none", spans(0, 1000000000)}, {"any | any", spans(0, 1000000000)}, {"any|=1.0.0", spans(0, 1000000000)}, {"=1.0.0 | none", spans(1000000, 1000001)}, {"none|=1.0.0", spans(1000000, 1000001)},
		{"=1.0.0|=2.0.0", spans(1000000, 1000001, 2000000, 2000001)}, {"=2.0.0|=1.0.0", spans(1000000, 1000001, 2000000, 2000001)}, {"=1.0.0|=1.0.0", spans(1000000, 1000001)},
		{"=1.0.0|=1.0.1|=1.0.2", spans(1000000, 1000003)}, {"<1.0.0|>=1.0.0", spans(0, 1000000000)}, {"<1.0.0|>1.0.0", spans(0, 1000000, 1000001, 1000000000)},
		{"^1.0.0|^2.0.0", spans(1000000, 3000000)}, {"^1.0.0 <1.5.0|>=1.3.0 <1.9.0", spans(1000000, 1009000)}, {"=1.0.0 =2.0.0|=3.0.0", spans(3000000, 3000001)},
		{" any", spans(0, 1000000000)}, {"any ", spans(0, 1000000000)}, {"   any   ", spans(0, 1000000000)}, {"  none  |  any  ", spans(0, 1000000000)},
		{"  =1.0.0  |  =2.0.0  ", spans(1000000, 1000001, 2000000, 2000001)}, {"=1.0.0 |=2.0.0", spans(1000000, 1000001, 2000000, 2000001)}, {"=1.0.0| =2.0.0", spans(1000000, 1000001, 2000000, 2000001)},
		{"   >=1.0.0    <2.0.0   ", spans(1000000, 2000000)},
	} {
		readAs(t, c.s, c.want)
	}
}

// P7.2: what is wrong, and the first place of it.
func TestReadOfWrongRules(t *testing.T) {
	for _, c := range []struct {
		s  string
		at int
	}{
		{"", 0}, {" ", 1}, {"     ", 5}, {"|", 0}, {" |", 1}, {"   |   ", 3}, {"|any", 0}, {"any|", 4}, {"=1.0.0 |", 8}, {"any |  ", 7}, {"any||any", 4}, {"any | | any", 6}, {"any|  |any", 6}, {"||", 0}, {"any||", 4},
		{"x", 0}, {" x", 1}, {"   x  ", 3}, {"any | x", 6}, {"any|x", 4}, {"any|x|any", 4}, {"x|any", 0}, {"=1.0.0 x", 7}, {"=1.0.0   x", 9}, {"x =1.0.0", 0}, {"=1.0.0 x =1.0.0", 7}, {"=1.0.0 | =2.0.0 x", 16},
		{"any any", 0}, {"none none", 0}, {"any none", 0}, {" any any", 1}, {"any =1.0.0", 0}, {"none =1.0.0", 0}, {"=1.0.0 any", 7}, {"=1.0.0 none", 7}, {"=1.0.0 any x", 7}, {"any x", 0}, {"x any", 0}, {"=1.0.0 | any any", 9},
		{"=1.0.0 | =1.0.0 none | none", 16}, {"none | any =1.0.0", 7}, {">=1.0.0 any <2.0.0", 8},
		{"Any", 0}, {"ANY", 0}, {"None", 0}, {"an", 0}, {"anyy", 0}, {"any.", 0}, {"nonenone", 0}, {"anyany", 0}, {"any=1.0.0", 0}, {"=any", 0}, {"nil", 0}, {"*", 0},
		{"=1.0.0=2.0.0", 0}, {"= 1.0.0", 0}, {"> =1.0.0", 0}, {">= 1.0.0", 0}, {"^1.0.0 < 2.0.0", 7}, {"=01.0.0", 0}, {"=1.0", 0}, {"1.0.0", 0}, {"=1.0.0 2.0.0", 7}, {"=1.0.0,=2.0.0", 0}, {"=1.0.0;", 0}, {"=1.0.0 ;", 7}, {"=1.0.0 &", 7},
		{"=1.0.0\t", 0}, {"\t=1.0.0", 0}, {"=1.0.0\t=1.0.0", 0}, {"=1.0.0 \t", 7}, {"\n", 0}, {" \n", 1}, {"any\n", 0}, {"any \x00", 0}, {"=1.0.0 \x00", 7}, {"=1.0.0\u00a0", 0}, {"=1.0.0 \u00a0 ", 7}, {"=1.0.0 \u2003=1.0.0", 7},
		{"=1.0.0 \xff", 7}, {"\xff", 0}, {"\xff|any", 0}, {"any|\xff", 4}, {"any|\xe2\x80", 4}, {"any \xe2\x80|", 0}, {"ω|any", 0}, {"=1.0.0 | ω", 9}, {"=1.0.0|ω x", 7}, {"any|\xe2", 4},
		{"=1.0.0 \xc3|x", 7}, {"any | \xc2\xa0", 6}, {"=1.0.0 ¦ =2.0.0", 7}, {"=1.0.0 ｜ =2.0.0", 7},
		// Of some things that are wrong the first one is told.
		{"| x", 0}, {"x |", 0}, {"any x |", 0}, {"=1.0.0 x | y", 7}, {"any | | x", 6}, {"any | x | ", 6}, {"=1.0.0 x any y", 7}, {"any || any any", 5},
	} {
		wrongAt(t, c.s, c.at, api.ErrForm)
	}
}

// P7.2: places are told in bytes, behind runes of many.
func TestReadTellsPlacesInBytes(t *testing.T) {
	for _, ahead := range []string{"", "any|", "none | ", "=1.0.0  |  ", "^1.2.0 <1.5.0 | =3.0.0 |", "    "} {
		wrongAt(t, ahead+"ω", len(ahead), api.ErrForm)
		wrongAt(t, ahead+"=1.0.0  ωω x", len(ahead)+8, api.ErrForm)
		if strings.TrimSpace(ahead) != "" {
			wrongAt(t, ahead, len(ahead), api.ErrForm)
			wrongAt(t, ahead+"  |ω", len(ahead)+2, api.ErrForm)
		}
	}
}

// P7.2: MaxText bytes, and more of them.
func TestReadOfLongRules(t *testing.T) {
	if rule.MaxText != 400 {
		t.Errorf("MaxText = %d", rule.MaxText)
	}
	fill := func(s string, n int) string { return s + strings.Repeat(" ", n-len(s)) }
	readAs(t, fill("=1.0.0", 400), spans(1000000, 1000001))
	readAs(t, strings.Repeat(" ", 397)+"any", spans(0, 1000000000))
	readAs(t, strings.Repeat("any|", 99)+"none", spans(0, 1000000000))
	readAs(t, strings.Repeat("=1.0.0 ", 57)+" ", spans(1000000, 1000001))
	wrongAt(t, fill("any|", 400), 400, api.ErrForm)
	wrongAt(t, strings.Repeat(" ", 400), 400, api.ErrForm)
	wrongAt(t, strings.Repeat(" ", 399)+"x", 399, api.ErrForm)
	wrongAt(t, strings.Repeat("x", 400), 0, api.ErrForm)
	wrongAt(t, strings.Repeat("|", 400), 0, api.ErrForm)
	wrongAt(t, strings.Repeat("any|", 100), 400, api.ErrForm)
	// In bytes, not in runes; and ahead of all else that is wrong.
	wrongAt(t, strings.Repeat("ω", 200), 0, api.ErrForm)
	wrongAt(t, " "+strings.Repeat("ω", 200), 0, api.ErrLong)
	for _, s := range []string{"any", "=1.0.0", "x", "any|", "|", " ", "any any", "=1.0.0|=2.0.0|=3.0.0|=4.0.0|=5.0.0|=6.0.0|=7.0.0"} {
		for _, n := range []int{401, 402, 1000, 1 << 16, 1 << 20} {
			wrongAt(t, fill(s, n), 0, api.ErrLong)
			wrongAt(t, strings.Repeat(" ", n-len(s))+s, 0, api.ErrLong)
		}
	}
}

// P7.2: MaxSpans spans, and more of them, of the set, not of what it is put together of.
func TestReadOfManySpans(t *testing.T) {
	six := "=1.0.0|=2.0.0|=3.0.0|=4.0.0|=5.0.0|=6.0.0"
	readAs(t, six, spans(1000000, 1000001, 2000000, 2000001, 3000000, 3000001, 4000000, 4000001, 5000000, 5000001, 6000000, 6000001))
	wrongAt(t, six+"|=7.0.0", 0, api.ErrLong)
	wrongAt(t, "=0.9.0|"+six, 0, api.ErrLong)
	wrongAt(t, six+"|=7.0.0|=8.0.0|=9.0.0", 0, api.ErrLong)
	wrongAt(t, six+"|>=6.0.2", 0, api.ErrLong)
	wrongAt(t, "<0.9.0|"+six, 0, api.ErrLong)
	wrongAt(t, six+"|none|=7.0.0|none", 0, api.ErrLong)
	// One that joins two, has some, or adds to one, makes no more of them.
	readAs(t, six+"|=7.0.0|<7.0.1", spans(0, 7000001))
	readAs(t, six+"|=7.0.0|any", spans(0, 1000000000))
	readAs(t, six+"|=7.0.0|>=6.0.0 <=7.0.0", spans(1000000, 1000001, 2000000, 2000001, 3000000, 3000001, 4000000, 4000001, 5000000, 5000001, 6000000, 7000001))
	readAs(t, six+"|=6.0.1", spans(1000000, 1000001, 2000000, 2000001, 3000000, 3000001, 4000000, 4000001, 5000000, 5000001, 6000000, 6000002))
	readAs(t, six+"|"+six, spans(1000000, 1000001, 2000000, 2000001, 3000000, 3000001, 4000000, 4000001, 5000000, 5000001, 6000000, 6000001))
	readAs(t, six+"|none|=8.0.0 =9.0.0", spans(1000000, 1000001, 2000000, 2000001, 3000000, 3000001, 4000000, 4000001, 5000000, 5000001, 6000000, 6000001))
	// What is wrong is told ahead of it, wherever it stands.
	long := six + "|=7.0.0|=8.0.0"
	wrongAt(t, long+"|", len(long)+1, api.ErrForm)
	wrongAt(t, long+" x", len(long)+1, api.ErrForm)
	wrongAt(t, long+"|any any", len(long)+1, api.ErrForm)
	wrongAt(t, "x|"+long, 0, api.ErrForm)
	wrongAt(t, "|"+long, 0, api.ErrForm)
}

// shape is a comparison, in form, of the words that are tried.
var shape = regexp.MustCompile(`^(=|>=|>|<=|<|\^|~)[0-2]\.0\.0$`)

// second reads a rule a second way: it tells of each version tried whether the rule has it, and the place of what is wrong, or -1.
func second(s string, tried [][3]int) (in []bool, wrong int) {
	in = make([]bool, len(tried))
	begin := 0
	for _, p := range strings.Split(s, "|") {
		words := strings.Fields(p)
		if len(words) == 0 {
			return nil, begin + len(p)
		}
		at := begin
		for _, w := range words {
			at += strings.Index(s[at:], w)
			if !shape.MatchString(w) && (len(words) > 1 || w != "any" && w != "none") {
				return nil, at
			}
			at += len(w)
		}
		for i, a := range tried {
			in[i] = in[i] || !slices.ContainsFunc(words, func(w string) bool { return !wordHas(w, a) })
		}
		begin += len(p) + 1
	}
	return in, -1
}

// wordHas tells whether a word, as the one of its piece, has a version.
func wordHas(w string, a [3]int) bool {
	if w == "any" || w == "none" {
		return w == "any"
	}
	digit := strings.IndexAny(w, "012")
	return comparisons[w[:digit]](a, [3]int{int(w[digit] - '0'), 0, 0})
}

// P7.2: all texts of up to 6 pieces out of 10, put one behind another, held against a second way to read.
func TestReadOfAllShortRules(t *testing.T) {
	pieces := []string{" ", "|", "any", "none", "=1.0.0", ">=0.0.0", "<2.0.0", "^1.0.0", "x", "="}
	tried := [][3]int{{0, 0, 0}, {0, 0, 1}, {0, 999, 999}, {1, 0, 0}, {1, 0, 1}, {1, 999, 999}, {2, 0, 0}, {2, 0, 1}, {999, 999, 999}}
	read := 0
	var all func(s string, n int)
	all = func(s string, n int) {
		in, wrong := second(s, tried)
		got, at, e := rule.Read(s)
		if wrong >= 0 {
			if got != nil || at != wrong || e != api.ErrForm {
				t.Fatalf("Read(%q) = %v, %d, %d, not wrong at %d", s, got, at, e, wrong)
			}
		} else {
			read++
			if at != 0 || e != api.OK || !span.Check(got) {
				t.Fatalf("Read(%q) = %v, %d, %d", s, got, at, e)
			}
			for i, a := range tried {
				if span.Has(got, placeOf(a)) != in[i] {
					t.Fatalf("Read(%q) = %v: of %v it should tell %v", s, got, a, in[i])
				}
			}
		}
		if n > 0 {
			for _, p := range pieces {
				all(s+p, n-1)
			}
		}
	}
	all("", 6)
	if read < 1000 {
		t.Errorf("of the texts only %d are rules", read)
	}
}
