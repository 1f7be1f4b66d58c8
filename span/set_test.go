package span_test

import (
	"fmt"
	"math"
	"slices"
	"testing"

	"comprador/api"
	"comprador/span"
)

// cuts are places that cut all versions into cells, rising, the bounds and their neighbours among them.
var cuts = []int{0, 1, 2, 7, 1000, 999999998, 999999999, 1000000000}

// cells are how many cells there are; a mask has a bit for each.
const cells = 7

// outer are numbers that spans may be given with, rising: the cuts, and some outside.
var outer = append(append([]int{math.MinInt, math.MinInt + 1, -1 << 32, -1}, cuts...), 1000000001, 1<<32+1, math.MaxInt-1, math.MaxInt)

// spans are those that begin and end at numbers, two by two.
func spans(ends ...int) []api.Span {
	var l []api.Span
	for i := 0; i < len(ends); i += 2 {
		l = append(l, api.Span{Lo: ends[i], Hi: ends[i+1]})
	}
	return l
}

// set is the set of a mask's cells, put down cell by cell.
func set(mask int) []api.Span {
	var l []api.Span
	for i := range cells {
		if mask>>i&1 == 0 {
			continue
		}
		if i > 0 && mask>>(i-1)&1 == 1 {
			l[len(l)-1].Hi = cuts[i+1]
			continue
		}
		l = append(l, api.Span{Lo: cuts[i], Hi: cuts[i+1]})
	}
	return l
}

// mask has the cells of which each version is in a span, or none, of spans that begin and end at outer's numbers.
func mask(l []api.Span) int {
	m := 0
	for i := range cells {
		for _, s := range l {
			if s.Lo <= cuts[i] && cuts[i+1] <= s.Hi {
				m |= 1 << i
			}
		}
	}
	return m
}

// alike tells whether two lists are, without the package.
func alike(a, b []api.Span) bool {
	if len(a) != len(b) {
		return false
	}
	for i := range a {
		if a[i].Lo != b[i].Lo || a[i].Hi != b[i].Hi {
			return false
		}
	}
	return true
}

// lists are all lists of up to three spans, out of numbers that they begin and end at.
func lists(numbers []int, each func(l []api.Span)) {
	var all []api.Span
	for _, lo := range numbers {
		for _, hi := range numbers {
			all = append(all, api.Span{Lo: lo, Hi: hi})
		}
	}
	each(nil)
	l := make([]api.Span, 3)
	for _, l[0] = range all {
		each(l[:1:1])
		for _, l[1] = range all {
			each(l[:2:2])
			for _, l[2] = range all {
				each(l)
			}
		}
	}
}

// P6.1
func TestCheck(t *testing.T) {
	for _, c := range []struct {
		l    []api.Span
		want bool
	}{
		{nil, true},
		{[]api.Span{}, true},
		{spans(1, 9), true},
		{spans(0, 1), true},
		{spans(0, api.Top), true},
		{spans(999999999, api.Top), true},
		{spans(0, 1, 2, 3, 5, 9, 10, 11), true},
		{spans(0, 1, 3, 4, 6, 7, 9, 10, 12, 13, 15, 16, 18, 19, 21, api.Top), true}, // more than a need may have
		{spans(1, 5, 5, 9), false}, // they touch
		{spans(1, 5, 4, 9), false},
		{spans(1, 9, 3, 4), false},
		{spans(5, 9, 1, 4), false},
		{spans(1, 4, 1, 4), false},
		{spans(0, 0), false}, // none
		{spans(5, 5), false},
		{spans(5, 4), false},
		{spans(api.Top, api.Top), false},
		{spans(1, 4, 6, 6), false},
		{spans(1, 4, 8, 7), false},
		{spans(3, 3, 5, 7), false},
		{spans(-1, 4), false}, // without
		{spans(-5, -1), false},
		{spans(math.MinInt, math.MaxInt), false},
		{spans(1, api.Top+1), false},
		{spans(api.Top, api.Top+1), false},
		{spans(1, 4, 6, math.MaxInt), false},
		{spans(math.MinInt, 4, 6, 8), false},
	} {
		if got := span.Check(c.l); got != c.want {
			t.Errorf("Check(%v) = %v", c.l, got)
		}
	}
}

// P6.1: of all lists of up to three spans those are sets that are some versions' set.
func TestCheckOfAllLists(t *testing.T) {
	sets := map[string]bool{}
	for m := range 1 << cells {
		sets[fmt.Sprint(set(m))] = true
	}
	found := 0
	lists([]int{math.MinInt, -1, 0, 1, 2, 7, 1000, 999999999, 1000000000, 1000000001, math.MaxInt}, func(l []api.Span) {
		got := span.Check(l)
		if got {
			found++
		}
		// To print each list would take too long: of lists that are plainly no set no text is made.
		if want := plausible(l) && sets[fmt.Sprint(l)]; got != want {
			t.Fatalf("Check(%v) = %v", l, got)
		}
	})
	if found < 50 {
		t.Errorf("of the lists only %d are sets", found)
	}
}

// plausible tells whether spans have versions, one by one.
func plausible(l []api.Span) bool {
	for _, s := range l {
		if s.Lo >= s.Hi {
			return false
		}
	}
	return true
}

// P6.1
func TestOf(t *testing.T) {
	for _, c := range []struct{ l, want []api.Span }{
		{nil, nil},
		{spans(5, 9, 1, 5), spans(1, 9)}, // the chapter's example
		{spans(1, 9), spans(1, 9)},
		{spans(1, 5, 6, 9), spans(1, 5, 6, 9)}, // one version apart
		{spans(6, 9, 1, 5), spans(1, 5, 6, 9)},
		{spans(6, 9, 1, 5, 5, 6), spans(1, 9)},
		{spans(1, 9, 3, 4), spans(1, 9)},
		{spans(3, 4, 1, 9), spans(1, 9)},
		{spans(1, 9, 3, 4, 6, 12, 12, 13), spans(1, 13)},
		{spans(1, 9, 1, 4, 1, 9), spans(1, 9)},
		{spans(1, 4, 1, 9), spans(1, 9)},
		{spans(5, 5), nil}, // none
		{spans(5, 4), nil},
		{spans(1, 3, 5, 4, 4, 4, 7, 8), spans(1, 3, 7, 8)},
		{spans(9, 1, 3, 4), spans(3, 4)},
		{spans(-5, 5), spans(0, 5)}, // partly without
		{spans(-5, 0, -9, -2), nil},
		{spans(-5, 1), spans(0, 1)},
		{spans(5, api.Top+1), spans(5, api.Top)},
		{spans(api.Top, api.Top+1, api.Top+3, api.Top+9), nil},
		{spans(api.Top-1, api.Top+1), spans(api.Top-1, api.Top)},
		{spans(math.MinInt, math.MaxInt), spans(0, api.Top)},
		{spans(math.MaxInt, math.MinInt), nil},
		{spans(math.MinInt, 3, 8, math.MaxInt), spans(0, 3, 8, api.Top)},
	} {
		if got := span.Of(c.l...); !alike(got, c.want) {
			t.Errorf("Of(%v) = %v, not %v", c.l, got, c.want)
		}
	}
	if got := span.Of(); got != nil {
		t.Errorf("Of() = %v", got)
	}
	if got := span.Of(api.Span{Lo: 6, Hi: 9}, api.Span{Lo: 1, Hi: 2}, api.Span{Lo: 2, Hi: 3}); !alike(got, spans(1, 3, 6, 9)) {
		t.Errorf("Of three spans = %v", got)
	}
}

// P6.1: of all lists of up to three spans, those that are none, turned round, or partly without, too.
func TestOfOfAllLists(t *testing.T) {
	lists(outer, func(l []api.Span) {
		if got := span.Of(l...); !alike(got, set(mask(l))) {
			t.Fatalf("Of(%v) = %v, not %v", l, got, set(mask(l)))
		}
	})
}

// P6.1: spans come, however many, in whatever order.
func TestOfOfManySpans(t *testing.T) {
	var l, want []api.Span
	for i := range 5000 {
		// 2003 and 5000 have no common factor: each place comes once.
		at := i * 2003 % 5000 * 10
		l = append(l, api.Span{Lo: at + 3, Hi: at + 6}, api.Span{Lo: at + 1, Hi: at + 3}, api.Span{Lo: at + 2, Hi: at + 4}, api.Span{Lo: at + 9, Hi: at})
		want = append(want, api.Span{Lo: i*10 + 1, Hi: i*10 + 6})
	}
	if got := span.Of(l...); !alike(got, want) {
		t.Errorf("Of %d spans has %d", len(l), len(got))
	}
	l = append(l, api.Span{Lo: -3, Hi: 50000})
	if got := span.Of(l...); !alike(got, spans(0, 50000)) {
		t.Errorf("Of spans, and one that has them all, has %d", len(got))
	}
}

// P6.1: the set of a set's spans is itself, in whatever order they come.
func TestOfOfSets(t *testing.T) {
	for m := range 1 << cells {
		l := set(m)
		if got := span.Of(l...); !alike(got, l) || !span.Check(got) {
			t.Errorf("Of(%v) = %v", l, got)
		}
		turned := slices.Clone(l)
		slices.Reverse(turned)
		if got := span.Of(turned...); !alike(got, l) {
			t.Errorf("Of(%v) = %v", turned, got)
		}
	}
}

// P6.1
func TestAllAndOne(t *testing.T) {
	if got := span.All(); !alike(got, spans(0, 1000000000)) || !span.Check(got) {
		t.Errorf("All() = %v", got)
	}
	for _, place := range []int{0, 1, 2, 999, 1002003, 999999998, 999999999} {
		if got := span.One(place); !alike(got, spans(place, place+1)) || !span.Check(got) {
			t.Errorf("One(%d) = %v", place, got)
		}
	}
	for _, place := range []int{math.MinInt, math.MinInt + 1, -1 << 32, -1000000000, -2, -1,
		1000000000, 1000000001, 1 << 32, 1<<32 + 1, math.MaxInt - 1, math.MaxInt} {
		if got := span.One(place); got != nil {
			t.Errorf("One(%d) = %v", place, got)
		}
	}
}
