package span_test

import (
	"testing"

	"comprador/api"
	"comprador/span"
)

// hidden is a list whose memory goes on behind its length, with spans that would be seen in an answer.
func hidden(l []api.Span) []api.Span {
	long := append(append(make([]api.Span, 0, len(l)+4), l...), behind...)
	return long[:len(l)]
}

// behind are spans that lie behind a list's length.
var behind = spans(100, 200, 300, 400, -5, 1<<40, 7, 3)

// unharmed fails, if a hidden list, or what lies behind it, is another one than it was.
func unharmed(t *testing.T, call string, l, was []api.Span) {
	t.Helper()
	if !alike(l, was) {
		t.Errorf("%s changed %v: %v", call, was, l)
	}
	if got := l[len(l) : len(l)+len(behind)]; !alike(got, behind) {
		t.Errorf("%s wrote behind %v: %v", call, was, got)
	}
}

// spoil writes into all memory that an answer has.
func spoil(l []api.Span) {
	for i := range l[:cap(l)] {
		l[:cap(l)][i] = api.Span{Lo: -77, Hi: -77}
	}
}

// P6.1, P6.2: what is given is not changed, and no answer shares memory with it; nothing behind a length is read or written.
func TestGivenListsStay(t *testing.T) {
	for m := range 1 << cells {
		for _, n := range []int{0, m, m >> 1, 1<<cells - 1, 1<<cells - 1 - m} {
			was, other := set(m), set(n)
			a, b := hidden(was), hidden(other)
			for _, c := range []struct {
				call      string
				got, want []api.Span
			}{
				{"Of", span.Of(a...), was},
				{"Not", span.Not(a), span.Not(was)},
				{"Union", span.Union(a, b), set(m | n)},
				{"Meet", span.Meet(a, b), set(m & n)},
			} {
				if !alike(c.got, c.want) {
					t.Errorf("%s of %v, %v = %v", c.call, a, b, c.got)
				}
				spoil(c.got)
				unharmed(t, c.call, a, was)
				unharmed(t, c.call, b, other)
			}
			if !span.Check(a) || span.Within(a, b) != (m&^n == 0) || span.Same(a, b) != (m == n) || span.Count(a) != span.Count(was) {
				t.Errorf("of %v, %v something is told that is not so", a, b)
			}
			span.Has(a, 150)
			span.Least(a)
			span.Most(a)
			unharmed(t, "a call that tells", a, was)
			unharmed(t, "a call that tells", b, other)
		}
	}
}

// P6.1: lists that are no sets, too, stay as they are.
func TestOfLeavesSpans(t *testing.T) {
	for _, was := range [][]api.Span{
		spans(9, 12, 5, 9, -4, 2, 3, 3, 1, api.Top+4),
		spans(5, 4, 1, 2, 1, 3, 0, 1),
		spans(-9, 9),
	} {
		l := hidden(was)
		got := span.Of(l...)
		unharmed(t, "Of", l, was)
		spoil(got)
		unharmed(t, "Of", l, was)
	}
}

// P6.1, P6.2: what is answered once is not changed by what is done with another answer.
func TestAnswersAreNew(t *testing.T) {
	for _, c := range []struct {
		call string
		make func() []api.Span
	}{
		{"All", span.All},
		{"One", func() []api.Span { return span.One(5) }},
		{"Of", func() []api.Span { return span.Of(api.Span{Lo: 1, Hi: 3}, api.Span{Lo: 5, Hi: 7}) }},
		{"Not", func() []api.Span { return span.Not(nil) }},
		{"Union", func() []api.Span { return span.Union(span.One(1), span.One(5)) }},
		{"Meet", func() []api.Span { return span.Meet(span.All(), span.One(5)) }},
	} {
		first := c.make()
		was := append([]api.Span(nil), first...)
		spoil(c.make())
		if !alike(first, was) {
			t.Errorf("%s shares memory with itself: %v", c.call, first)
		}
		spoil(first)
		if again := c.make(); !alike(again, was) {
			t.Errorf("%s = %v, behind a change of its answer", c.call, again)
		}
	}
}

// P6.1, P6.2: an empty list is none.
func TestNoneIsNil(t *testing.T) {
	none := []api.Span{}
	for call, got := range map[string][]api.Span{
		"Of":               span.Of(none...),
		"Of an empty span": span.Of(api.Span{Lo: 3, Hi: 3}),
		"One":              span.One(-1),
		"Union":            span.Union(none, none),
		"Meet":             span.Meet(span.One(1), span.One(2)),
		"Not":              span.Not(span.All()),
	} {
		if got != nil {
			t.Errorf("%s = %v, not nil", call, got)
		}
	}
}

// 0.1: no call panics, or goes on for ever, at lists that are no sets.
func TestLists(t *testing.T) {
	var all [][]api.Span
	numbers := []int{outer[0], -1, 0, 1, 1000, 999999999, 1000000000, 1000000001, outer[len(outer)-1]}
	for _, lo := range numbers {
		for _, hi := range numbers {
			all = append(all, spans(lo, hi), spans(5, 9, lo, hi), spans(lo, hi, 5, 9), spans(lo, hi, 1000, 2, lo, hi))
		}
	}
	for _, a := range all {
		span.Check(a)
		span.Of(a...)
		span.Not(a)
		span.Least(a)
		span.Most(a)
		span.Count(a)
		for _, place := range outer {
			span.Has(a, place)
			span.One(place)
		}
		for _, b := range all {
			span.Union(a, b)
			span.Meet(a, b)
			span.Within(a, b)
			span.Same(a, b)
		}
	}
}
