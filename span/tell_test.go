package span_test

import (
	"math"
	"testing"

	"comprador/api"
	"comprador/span"
)

// P6.2
func TestHas(t *testing.T) {
	l := spans(1, 3, 5, 6, 999999999, api.Top)
	for _, place := range []int{1, 2, 5, 999999999} {
		if !span.Has(l, place) {
			t.Errorf("Has(%v, %d) = false", l, place)
		}
	}
	for _, place := range []int{math.MinInt, -1, 0, 3, 4, 6, 7, 999999998, 1000000000, 1000000001, 1<<32 + 1, math.MaxInt} {
		if span.Has(l, place) {
			t.Errorf("Has(%v, %d) = true", l, place)
		}
	}
	for _, place := range outer {
		if span.Has(nil, place) {
			t.Errorf("Has of no spans, %d, = true", place)
		}
		if got := span.Has(span.All(), place); got != (place >= 0 && place < api.Top) {
			t.Errorf("Has of all versions, %d, = %v", place, got)
		}
	}
}

// P6.2
func TestLeastMostAndCount(t *testing.T) {
	for _, c := range []struct {
		l                  []api.Span
		least, most, count int
	}{
		{spans(1, 9), 1, 8, 8},
		{spans(7, 8), 7, 7, 1},
		{spans(0, 1), 0, 0, 1},
		{spans(0, api.Top), 0, 999999999, 1000000000},
		{spans(999999999, api.Top), 999999999, 999999999, 1},
		{spans(2, 4, 6, 9, 20, 21), 2, 20, 6},
		{spans(0, 4, 6, api.Top), 0, 999999999, 999999998},
	} {
		if got, ok := span.Least(c.l); got != c.least || !ok {
			t.Errorf("Least(%v) = %d, %v", c.l, got, ok)
		}
		if got, ok := span.Most(c.l); got != c.most || !ok {
			t.Errorf("Most(%v) = %d, %v", c.l, got, ok)
		}
		if got := span.Count(c.l); got != c.count {
			t.Errorf("Count(%v) = %d, not %d", c.l, got, c.count)
		}
	}
}

// P6.2: a set that has none.
func TestTellOfNone(t *testing.T) {
	for _, l := range [][]api.Span{nil, {}, make([]api.Span, 0, 4), span.Not(span.All())} {
		if got, ok := span.Least(l); got != 0 || ok {
			t.Errorf("Least of none = %d, %v", got, ok)
		}
		if got, ok := span.Most(l); got != 0 || ok {
			t.Errorf("Most of none = %d, %v", got, ok)
		}
		if got := span.Count(l); got != 0 {
			t.Errorf("Count of none = %d", got)
		}
		if !span.Same(l, nil) || !span.Same(nil, l) || span.Same(l, span.All()) || span.Same(span.All(), l) {
			t.Error("Same of none tells what is not so")
		}
	}
}

// P6.2: of all sets that cells make: at each cell's first and last place, and at those beside it.
func TestTellOfAllSets(t *testing.T) {
	for m := range 1 << cells {
		l, least, most, count := set(m), -1, -1, 0
		for i := range cells {
			lo, hi, in := cuts[i], cuts[i+1], m>>i&1 == 1
			for _, place := range []int{lo, (lo + hi) / 2, hi - 1} {
				if span.Has(l, place) != in {
					t.Fatalf("Has(%v, %d) = %v", l, place, !in)
				}
			}
			if !in {
				continue
			}
			if least < 0 {
				least = lo
			}
			most = hi - 1
			count += hi - lo
		}
		if got, ok := span.Least(l); ok != (m != 0) || ok && got != least {
			t.Errorf("Least(%v) = %d, %v", l, got, ok)
		}
		if got, ok := span.Most(l); ok != (m != 0) || ok && got != most {
			t.Errorf("Most(%v) = %d, %v", l, got, ok)
		}
		if got := span.Count(l); got != count {
			t.Errorf("Count(%v) = %d", l, got)
		}
	}
}

// P6.2: lists, whether they are sets or not.
func TestSame(t *testing.T) {
	some := [][]api.Span{
		{},
		spans(1, 9), spans(1, 8), spans(2, 9), spans(9, 1), spans(0, 0), spans(5, 5), spans(-1, 9), spans(math.MinInt, math.MaxInt), spans(0, api.Top), spans(0, api.Top+1),
		spans(1, 5, 5, 9), spans(5, 9, 1, 5), spans(1, 9, 0, 0), spans(1, 9, 1, 9), spans(0, 0, 0, 0),
		spans(1, 5, 5, 9, 11, 12), spans(1, 5, 5, 9, 11, 13), spans(1, 5, 5, 9, 10, 12),
	}
	for i, a := range some {
		for j, b := range some {
			if got := span.Same(a, append([]api.Span(nil), b...)); got != (i == j) {
				t.Errorf("Same(%v, %v) = %v", a, b, got)
			}
		}
	}
}
