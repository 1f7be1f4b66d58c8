package rule_test

import (
	"cmp"
	"fmt"
	"slices"
	"strings"
	"testing"
	"unicode/utf8"

	"comprador/api"
	"comprador/rule"
)

// spans are those that begin and end at numbers, two by two.
func spans(ends ...int) []api.Span {
	var l []api.Span
	for i := 0; i < len(ends); i += 2 {
		l = append(l, api.Span{Lo: ends[i], Hi: ends[i+1]})
	}
	return l
}

// edges are parts of all sizes, rising: those at the bounds, beside them, and some between.
var edges = []int{0, 1, 2, 9, 10, 500, 998, 999}

// versions are the parts of versions, rising, part by part.
func versions() [][3]int {
	var l [][3]int
	for _, a := range edges {
		for _, b := range edges {
			for _, c := range edges {
				l = append(l, [3]int{a, b, c})
			}
		}
	}
	return l
}

// placeOf is a version's place, without the package that tells it.
func placeOf(parts [3]int) int {
	return parts[0]*1000000 + parts[1]*1000 + parts[2]
}

// textOf is a version's text, without the package that tells it.
func textOf(place int) string {
	return fmt.Sprintf("%d.%d.%d", place/1000000, place/1000%1000, place%1000)
}

// comparisons tell of each sign whether a version stands to the one behind the sign as it says: by their parts alone.
var comparisons = map[string]func(a, v [3]int) bool{
	"=":  func(a, v [3]int) bool { return a == v },
	">=": func(a, v [3]int) bool { return slices.Compare(a[:], v[:]) >= 0 },
	">":  func(a, v [3]int) bool { return slices.Compare(a[:], v[:]) > 0 },
	"<=": func(a, v [3]int) bool { return slices.Compare(a[:], v[:]) <= 0 },
	"<":  func(a, v [3]int) bool { return slices.Compare(a[:], v[:]) < 0 },
	"^": func(a, v [3]int) bool {
		alike := a[0] == v[0] && (v[0] != 0 || a[1] == v[1])
		return alike && slices.Compare(a[:], v[:]) >= 0
	},
	"~": func(a, v [3]int) bool {
		return a[0] == v[0] && a[1] == v[1] && cmp.Compare(a[2], v[2]) >= 0
	},
}

// compared fails, if what a word has is not told, or is another set.
func compared(t *testing.T, word string, want []api.Span) {
	t.Helper()
	if got, ok := rule.Compare(word); !slices.Equal(got, want) || !ok {
		t.Errorf("Compare(%q) = %v, %v, not %v", word, got, ok, want)
	}
}

// noComparison fails, if a word is told to be a comparison.
func noComparison(t *testing.T, word string) {
	t.Helper()
	if got, ok := rule.Compare(word); got != nil || ok {
		t.Errorf("Compare(%.60q) = %v, %v", word, got, ok)
	}
}

// P7.1
func TestCompare(t *testing.T) {
	for _, c := range []struct {
		word string
		want []api.Span
	}{
		{"=1.2.3", spans(1002003, 1002004)}, {"=0.0.0", spans(0, 1)}, {"=999.999.999", spans(999999999, 1000000000)},
		{">=1.2.3", spans(1002003, 1000000000)}, {">=0.0.0", spans(0, 1000000000)}, {">=0.0.1", spans(1, 1000000000)}, {">=999.999.999", spans(999999999, 1000000000)},
		{">1.2.3", spans(1002004, 1000000000)}, {">0.0.0", spans(1, 1000000000)}, {">1.2.999", spans(1003000, 1000000000)}, {">999.999.998", spans(999999999, 1000000000)}, {">999.999.999", nil},
		{"<=1.2.3", spans(0, 1002004)}, {"<=0.0.0", spans(0, 1)}, {"<=1.999.999", spans(0, 2000000)}, {"<=999.999.998", spans(0, 999999999)}, {"<=999.999.999", spans(0, 1000000000)},
		{"<1.2.3", spans(0, 1002003)}, {"<0.0.1", spans(0, 1)}, {"<0.0.0", nil}, {"<999.999.999", spans(0, 999999999)},
		{"^1.2.3", spans(1002003, 2000000)}, {"^1.0.0", spans(1000000, 2000000)}, {"^1.999.999", spans(1999999, 2000000)}, {"^10.20.30", spans(10020030, 11000000)},
		{"^998.1.1", spans(998001001, 999000000)}, {"^999.0.0", spans(999000000, 1000000000)}, {"^999.999.999", spans(999999999, 1000000000)},
		{"^0.2.3", spans(2003, 3000)}, {"^0.0.0", spans(0, 1000)}, {"^0.0.3", spans(3, 1000)}, {"^0.999.3", spans(999003, 1000000)}, {"^0.999.999", spans(999999, 1000000)},
		{"~1.2.3", spans(1002003, 1003000)}, {"~1.2.0", spans(1002000, 1003000)}, {"~1.2.999", spans(1002999, 1003000)}, {"~1.999.3", spans(1999003, 2000000)},
		{"~0.2.3", spans(2003, 3000)}, {"~0.0.0", spans(0, 1000)}, {"~0.999.0", spans(999000, 1000000)}, {"~999.999.0", spans(999999000, 1000000000)}, {"~999.999.999", spans(999999999, 1000000000)},
	} {
		compared(t, c.word, c.want)
	}
}

// P7.1: of each sign and many versions: what it has is one span, or none, that begins and ends where the versions that stand so do.
func TestCompareOfManyVersions(t *testing.T) {
	all := versions()
	for sign, stands := range comparisons {
		for _, v := range all {
			word := sign + textOf(placeOf(v))
			got, ok := rule.Compare(word)
			if !ok || len(got) > 1 {
				t.Fatalf("Compare(%q) = %v, %v", word, got, ok)
			}
			for _, a := range all {
				at := placeOf(a)
				if in := len(got) == 1 && got[0].Lo <= at && at < got[0].Hi; in != stands(a, v) {
					t.Fatalf("Compare(%q) = %v: of %v it tells %v", word, got, a, in)
				}
			}
			if len(got) == 1 && (got[0].Lo < 0 || got[0].Hi > api.Top || got[0].Lo >= got[0].Hi) {
				t.Fatalf("Compare(%q) = %v", word, got)
			}
		}
	}
}

// P7.1: words that are none.
func TestCompareOfNone(t *testing.T) {
	for _, word := range []string{
		"", "=", ">=", ">", "<=", "<", "^", "~", "1.2.3", "0.0.0", "any", "none", "=any", "=none", "*", "=*", "x",
		"==1.2.3", "===1.2.3", "=>1.2.3", "=<1.2.3", ">>1.2.3", "<<1.2.3", "<>1.2.3", "><1.2.3", ">==1.2.3", "<==1.2.3", ">>=1.2.3", "<<=1.2.3", "^^1.2.3", "~~1.2.3", "^~1.2.3", "~^1.2.3",
		"^=1.2.3", "~=1.2.3", "=^1.2.3", "=~1.2.3", "~>1.2.3", "^>=1.2.3", ">=^1.2.3", "!=1.2.3", "!1.2.3", "~!1.2.3", "-1.2.3", "+1.2.3", "≥1.2.3", "≤1.2.3", "＝1.2.3", "＜1.2.3", "˜1.2.3", "ˆ1.2.3",
		" =1.2.3", "=1.2.3 ", "= 1.2.3", "> =1.2.3", ">= 1.2.3", "\t=1.2.3", "=\t1.2.3", "=1.2.3\t", "=1.2.3\n", "=1.2.3\x00", "\x00=1.2.3",
		"=1.2", "=1", "=1.2.3.4", "=1.2.", "=.1.2", "=..", "=01.2.3", "=1.02.3", "=1.2.03", "=1000.0.0", "=0.1000.0", "=0.0.1000", "=1.2.x", "=v1.2.3", "v1.2.3", "=-1.2.3", "=+1.2.3", "=1.-2.3",
		"=4294967297.0.0", "=18446744073709551617.2.3", "=1,2,3", "=1.2.３", "=１.2.3",
		"1.2.3=", "1.2.3>=", "=1.2.3=", "^1.2.3^", "1=.2.3", "1.2.>3", "=1.=2.3", "=1.2.3|", "|=1.2.3", "=1.2.3|=1.2.4", "=1.2.3=1.2.4", ">=1.2.3<2.0.0", ">=1.2.3 <2.0.0", "=1.2.3,", "=1.2.3;",
		"\xff=1.2.3", "=\xff1.2.3", "=1.2.3\xff", "=1\xff.2.3", "\xe2\x89=1.2.3", ">\xbd1.2.3",
	} {
		noComparison(t, word)
	}
	for _, n := range []int{1 << 10, 1 << 20} {
		for _, c := range []string{"=", ">", "<", "^", "~", "0", "1", ".", " ", "|", "ω", "\xff"} {
			long := strings.Repeat(c, n)
			noComparison(t, long)
			noComparison(t, long+"1.2.3")
			noComparison(t, "="+long+"1.2.3")
			noComparison(t, "=1.2.3"+long)
		}
	}
}

// P7.1: all words of up to three letters, ahead of a version's text: just the signs make a comparison of it.
func TestCompareOfAllShortSigns(t *testing.T) {
	letters := []string{"=", ">", "<", "^", "~", "!", "|", " ", "-", "0", "\xff"}
	words := []string{""}
	for range 3 {
		for _, w := range words {
			for _, c := range letters {
				words = append(words, w+c)
			}
		}
	}
	for _, sign := range words {
		if _, is := comparisons[sign]; is {
			if _, ok := rule.Compare(sign + "1.2.3"); !ok {
				t.Errorf("Compare(%q) = false", sign+"1.2.3")
			}
			continue
		}
		noComparison(t, sign+"1.2.3")
	}
}

// P7.1: each rune there is, in the place of a sign, behind one, and behind the version.
func TestCompareOfEachRune(t *testing.T) {
	for r := rune(0); r <= utf8.MaxRune; r++ {
		s := string(r)
		if _, is := comparisons[s]; !is {
			noComparison(t, s+"1.2.3")
		}
		if r != '=' {
			noComparison(t, ">"+s+"1.2.x")
			if r < '0' || r > '9' {
				noComparison(t, ">"+s+"1.2.3")
			}
		}
		if r < '0' || r > '9' {
			noComparison(t, ">=1.2.3"+s)
		}
	}
}
