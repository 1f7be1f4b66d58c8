package span_test

import (
	"testing"

	"comprador/api"
	"comprador/span"
)

// P6.2
func TestUnionAndMeet(t *testing.T) {
	for _, c := range []struct{ a, b, union, meet []api.Span }{
		{nil, nil, nil, nil},
		{spans(1, 9), nil, spans(1, 9), nil},
		{spans(1, 9), spans(8, 12), spans(1, 12), spans(8, 9)}, // the chapter's example
		{spans(1, 9), spans(9, 12), spans(1, 12), nil},         // they touch
		{spans(1, 9), spans(10, 12), spans(1, 9, 10, 12), nil},
		{spans(1, 9), spans(3, 4, 5, 6), spans(1, 9), spans(3, 4, 5, 6)},
		{spans(1, 9), spans(1, 4), spans(1, 9), spans(1, 4)},
		{spans(1, 9), spans(4, 9), spans(1, 9), spans(4, 9)},
		{spans(1, 3, 5, 7, 9, 11), spans(3, 5, 7, 9), spans(1, 11), nil},
		{spans(1, 3, 5, 7, 9, 11), spans(2, 6, 8, 10), spans(1, 7, 8, 11), spans(2, 3, 5, 6, 9, 10)},
		{spans(0, api.Top), spans(5, 6), spans(0, api.Top), spans(5, 6)},
		{spans(0, api.Top), spans(0, api.Top), spans(0, api.Top), spans(0, api.Top)},
		{spans(0, 1), spans(999999999, api.Top), spans(0, 1, 999999999, api.Top), nil},
		{spans(0, 5), spans(5, api.Top), spans(0, api.Top), nil},
	} {
		for range 2 {
			if got := span.Union(c.a, c.b); !alike(got, c.union) {
				t.Errorf("Union(%v, %v) = %v, not %v", c.a, c.b, got, c.union)
			}
			if got := span.Meet(c.a, c.b); !alike(got, c.meet) {
				t.Errorf("Meet(%v, %v) = %v, not %v", c.a, c.b, got, c.meet)
			}
			c.a, c.b = c.b, c.a
		}
	}
}

// P6.2
func TestNot(t *testing.T) {
	for _, c := range []struct{ a, want []api.Span }{
		{nil, spans(0, api.Top)},
		{spans(1, 9), spans(0, 1, 9, api.Top)}, // the chapter's example
		{spans(0, api.Top), nil},
		{spans(0, 9), spans(9, api.Top)},
		{spans(9, api.Top), spans(0, 9)},
		{spans(0, 1, 2, api.Top), spans(1, 2)},
		{spans(1, 2, 4, 8, 9, 10), spans(0, 1, 2, 4, 8, 9, 10, api.Top)},
		{spans(999999999, api.Top), spans(0, 999999999)},
		{spans(0, 999999999), spans(999999999, api.Top)},
	} {
		if got := span.Not(c.a); !alike(got, c.want) {
			t.Errorf("Not(%v) = %v, not %v", c.a, got, c.want)
		}
	}
}

// P6.2
func TestWithin(t *testing.T) {
	for _, c := range []struct {
		a, b []api.Span
		want bool
	}{
		{nil, nil, true},
		{nil, spans(1, 9), true},
		{spans(1, 9), nil, false},
		{spans(1, 9), spans(1, 9), true},
		{spans(2, 8), spans(1, 9), true},
		{spans(1, 9), spans(2, 9), false},
		{spans(1, 9), spans(1, 8), false},
		{spans(1, 9), spans(1, 4, 5, 9), false},
		{spans(1, 2, 6, 9), spans(1, 4, 5, 9), true},
		{spans(1, 2, 4, 9), spans(1, 4, 5, 9), false},
		{spans(1, 2, 20, 21), spans(1, 4, 5, 9), false},
		{spans(0, api.Top), spans(0, api.Top), true},
		{spans(0, api.Top), spans(0, 999999999), false},
		{spans(0, api.Top), spans(1, api.Top), false},
	} {
		if got := span.Within(c.a, c.b); got != c.want {
			t.Errorf("Within(%v, %v) = %v", c.a, c.b, got)
		}
	}
}

// P6.2: of all sets that cells make, two by two.
func TestAllSetsTwoByTwo(t *testing.T) {
	const all = 1<<cells - 1
	for m := range 1 << cells {
		a := set(m)
		if got := span.Not(a); !alike(got, set(all&^m)) {
			t.Fatalf("Not(%v) = %v", a, got)
		}
		for n := range 1 << cells {
			b := set(n)
			if got := span.Union(a, b); !alike(got, set(m|n)) {
				t.Fatalf("Union(%v, %v) = %v", a, b, got)
			}
			if got := span.Meet(a, b); !alike(got, set(m&n)) {
				t.Fatalf("Meet(%v, %v) = %v", a, b, got)
			}
			if got := span.Within(a, b); got != (m&^n == 0) {
				t.Fatalf("Within(%v, %v) = %v", a, b, got)
			}
			if got := span.Same(a, b); got != (m == n) {
				t.Fatalf("Same(%v, %v) = %v", a, b, got)
			}
		}
	}
}

// P6.3
func TestWhatFollows(t *testing.T) {
	for m := range 1 << cells {
		a := set(m)
		if got := span.Not(span.Not(a)); !span.Same(got, a) {
			t.Fatalf("Not of Not of %v = %v", a, got)
		}
		for n := range 1 << cells {
			b := set(n)
			union, meet := span.Union(a, b), span.Meet(a, b)
			if !span.Check(union) || !span.Check(meet) {
				t.Fatalf("of %v and %v: %v, %v are no sets", a, b, union, meet)
			}
			if got := span.Meet(span.Not(a), span.Not(b)); !span.Same(got, span.Not(union)) {
				t.Fatalf("of %v and %v: Meet of both Nots = %v", a, b, got)
			}
			if got := span.Meet(a, span.Not(b)); (len(got) == 0) != span.Within(a, b) {
				t.Fatalf("of %v and %v: Meet with Not = %v", a, b, got)
			}
			if span.Count(union)+span.Count(meet) != span.Count(a)+span.Count(b) {
				t.Fatalf("of %v and %v: Counts %d, %d", a, b, span.Count(union), span.Count(meet))
			}
		}
	}
}

// P6.2: of sets of many spans, more than a need may have.
func TestSetsOfManySpans(t *testing.T) {
	var twos, threes, both, one []api.Span
	for i := range 60000 {
		two, three := i%2 == 0, i%3 == 0
		at := api.Span{Lo: i, Hi: i + 1}
		if two {
			twos = append(twos, at)
		}
		if three {
			threes = append(threes, at)
		}
		if two && three {
			both = append(both, at)
		}
		if two || three {
			one = append(one, at)
		}
	}
	one = span.Of(one...)
	if got := span.Meet(twos, threes); !alike(got, both) {
		t.Errorf("Meet has %d spans, not %d", len(got), len(both))
	}
	if got := span.Union(twos, threes); !alike(got, one) || span.Count(got) != 40000 {
		t.Errorf("Union has %d spans, not %d", len(got), len(one))
	}
	if !span.Within(both, twos) || !span.Within(both, threes) || span.Within(twos, threes) || !span.Within(threes, one) {
		t.Error("Within tells of many spans what is not so")
	}
	if got := span.Not(twos); len(got) != 30000 || !span.Same(span.Not(got), twos) {
		t.Errorf("Not has %d spans", len(got))
	}
}
