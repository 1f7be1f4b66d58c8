package rule_test

import (
	"math"
	"slices"
	"strings"
	"testing"

	"comprador/api"
	"comprador/rule"
)

// spoil writes into all memory that an answer has.
func spoil(l []api.Span) {
	for i := range l[:cap(l)] {
		l[:cap(l)][i] = api.Span{Lo: -77, Hi: -77}
	}
}

// 0.5: what is answered once is not changed by what is done with another answer.
func TestAnswersAreNew(t *testing.T) {
	for _, s := range []string{"any", "=1.0.0", ">=0.0.0", "^1.2.0", "^1.2.0 <1.5.0 | =3.0.0", "none", "any|any"} {
		first, _, _ := rule.Read(s)
		was := slices.Clone(first)
		again, _, _ := rule.Read(s)
		spoil(again)
		if !slices.Equal(first, was) {
			t.Errorf("Read(%q) shares memory with itself: %v", s, first)
		}
		spoil(first)
		readAs(t, s, was)
		if has, ok := rule.Compare(s); ok {
			was := slices.Clone(has)
			spoil(has)
			compared(t, s, was)
		}
	}
}

// 0.5, 0.8: what is given is not changed, and nothing behind its length is read or written.
func TestGivenListsStay(t *testing.T) {
	behind := spans(100, 200, 300, 400, -5, 1<<40, 7, 3)
	for mask := range 1 << cells {
		was := set(mask)
		long := append(slices.Clone(was), behind...)
		l := long[:len(was)]
		if got, want := rule.Show(l), rule.Show(was); got != want {
			t.Errorf("Show(%v) = %q, not %q", l, got, want)
		}
		if !slices.Equal(l, was) || !slices.Equal(long[len(was):], behind) {
			t.Fatalf("Show changed %v: %v", was, long)
		}
	}
}

// 0.3, 0.8: a set without versions is a nil list, and so is what stands beside an error.
func TestNoneIsNil(t *testing.T) {
	for _, s := range []string{"none", "none|none", "<0.0.0", "=1.0.0 =2.0.0", "", "x", "any|", "any x", strings.Repeat("any|", 200), "=1.0.0|=2.0.0|=3.0.0|=4.0.0|=5.0.0|=6.0.0|=7.0.0"} {
		if got, _, _ := rule.Read(s); got != nil {
			t.Errorf("Read(%q) = %v, not nil", s, got)
		}
	}
	for _, word := range []string{"<0.0.0", ">999.999.999", "", "x", "any", "=1.0"} {
		if got, _ := rule.Compare(word); got != nil {
			t.Errorf("Compare(%q) = %v, not nil", word, got)
		}
	}
}

// 0.1: no call panics, or goes on for ever, at any text or list.
func TestAnyTextsAndLists(t *testing.T) {
	for _, c := range []string{"=", "|", " ", "x", "any", "=1.0.0", "\x00", "\xff", "\xe2\x89", "ω", "=1.0.0 ", "any|", "<0.0.1|"} {
		for _, n := range []int{1, 2, 7, 50, 133, 399, 400, 401, 1 << 12, 1 << 18} {
			s := strings.Repeat(c, n)
			rule.Read(s)
			rule.Read(s[:min(len(s), rule.MaxText)])
			rule.Compare(s)
		}
	}
	numbers := []int{math.MinInt, -1, 0, 1, 1000, 999999999, 1000000000, 1000000001, math.MaxInt}
	for _, lo := range numbers {
		for _, hi := range numbers {
			rule.Show(spans(lo, hi))
			rule.Show(spans(5, 9, lo, hi))
			rule.Show(spans(lo, hi, 5, 9))
			rule.Show(spans(lo, hi, lo, hi, 1000, 2))
		}
	}
}
