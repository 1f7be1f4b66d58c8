package need_test

import (
	"math"
	"slices"
	"strings"
	"testing"

	"comprador/api"
	"comprador/need"
)

// deep is a copy of needs that shares no list with them.
func deep(l []api.Need) []api.Need {
	var c []api.Need
	for _, n := range l {
		c = append(c, api.Need{Name: n.Name, In: slices.Clone(n.In)})
	}
	return c
}

// spoilSpans writes into all memory that a set has.
func spoilSpans(l []api.Span) {
	for i := range l[:cap(l)] {
		l[:cap(l)][i] = api.Span{Lo: -77, Hi: -77}
	}
}

// spoil writes into all memory that needs have, those behind their length, too.
func spoil(l []api.Need) {
	for i, n := range l[:cap(l)] {
		spoilSpans(n.In)
		l[:cap(l)][i].Name = "spoilt"
	}
}

// apart fails, if two lists of one answer share memory.
func apart(t *testing.T, l []api.Need) {
	t.Helper()
	was := deep(l)
	for i := range l {
		spoilSpans(l[i].In)
		for j := i + 1; j < len(l); j++ {
			if !slices.Equal(l[j].In, was[j].In) {
				t.Fatalf("of %v the lists %d and %d share memory", was, i, j)
			}
		}
	}
}

// 0.5: what is answered shares no memory with what was given, or with another answer.
func TestAnswersAreNew(t *testing.T) {
	for _, a := range mayBe {
		for _, b := range mayBe {
			x, y := deep(a), deep(b)
			want := deep(need.Both(a, b))
			spoil(need.Both(x, y))
			if !alike(x, a) || !alike(y, b) {
				t.Fatalf("Both(%v, %v) shares memory with them", a, b)
			}
			apart(t, need.Both(x, y))
			if got := need.Both(a, b); !alike(got, want) {
				t.Fatalf("Both(%v, %v) = %v, not %v", a, b, got, want)
			}
		}
		apart(t, need.Both(a, a))
		x := deep(a)
		for _, n := range a {
			in, _ := need.Find(x, n.Name)
			spoilSpans(in)
		}
		if !alike(x, a) {
			t.Fatalf("Find of %v shares memory with them", a)
		}
	}
	for _, s := range []string{"a", "a;b;c", "a any; b any", "a none", "a ^1.0.0; b ^1.0.0", "a =1.0.0 | =2.0.0; b; c none"} {
		first, _, _ := need.Read(s)
		was := deep(first)
		again, _, _ := need.Read(s)
		apart(t, again)
		spoil(again)
		if !alike(first, was) {
			t.Errorf("Read(%q) shares memory with itself: %v", s, first)
		}
		readAs(t, s, was)
	}
}

// 0.5: needs that share memory with one another give an answer that does not.
func TestSharedListsAreSetApart(t *testing.T) {
	in := spans(5, 9, 20, 30)
	l := list(api.Need{Name: "a", In: in}, api.Need{Name: "b", In: in}, api.Need{Name: "c", In: in[:1]})
	got := need.Both(l, l[1:])
	if want := list(of("a", 5, 9, 20, 30), of("b", 5, 9, 20, 30), of("c", 5, 9)); !alike(got, want) {
		t.Errorf("Both(%v) = %v", l, got)
	}
	apart(t, got)
	if !slices.Equal(in, spans(5, 9, 20, 30)) {
		t.Errorf("what was given became %v", in)
	}
}

// 0.5, 0.8: what is given is not changed, and nothing behind a length is read, written, or handed out.
func TestGivenListsStay(t *testing.T) {
	behind := append(named("a", "zz"), of("b", 100, 200, -5, 1<<40))
	ends := spans(100, 200, 300, 400, -5, 1<<40, 7, 3)
	stretch := func(l []api.Need) []api.Need {
		var c []api.Need
		for _, n := range l {
			c = append(c, api.Need{Name: n.Name, In: append(slices.Clone(n.In), ends...)[:len(n.In)]})
		}
		return append(c, deep(behind)...)[:len(l)]
	}
	stays := func(l, was []api.Need) {
		t.Helper()
		long := l[:len(l)+len(behind)]
		if !alike(l, was) || !alike(long[len(l):], behind) {
			t.Fatalf("%v became %v", was, long)
		}
		for _, n := range l {
			if !slices.Equal(n.In[:len(n.In)+len(ends)][len(n.In):], ends) {
				t.Fatalf("of %v what is behind a set was written", was)
			}
		}
	}
	for _, was := range lists() {
		l := stretch(was)
		if need.Check(l) != need.Check(was) || need.Show(l) != need.Show(was) || !need.Same(l, was) || !need.Same(was, l) {
			t.Fatalf("of %v what is behind it was read", was)
		}
		for _, name := range []string{"a", "b", "zz"} {
			in, ok := need.Find(l, name)
			if want, also := need.Find(was, name); !slices.Equal(in, want) || ok != also {
				t.Fatalf("Find(%v, %q) = %v, %v", was, name, in, ok)
			}
			if slices.Contains(in[:cap(in)], ends[2]) {
				t.Fatalf("Find(%v, %q) hands out what is behind a set", was, name)
			}
		}
		stays(l, was)
	}
	for _, a := range mayBe {
		for _, b := range mayBe {
			x, y := stretch(a), stretch(b)
			got := need.Both(x, y)
			if !alike(got, need.Both(a, b)) {
				t.Fatalf("Both(%v, %v) = %v", a, b, got)
			}
			for _, n := range got[:cap(got)] {
				if n.Name == "zz" || slices.Contains(n.In[:cap(n.In)], ends[2]) {
					t.Fatalf("Both(%v, %v) hands out what is behind them", a, b)
				}
			}
			stays(x, a)
			stays(y, b)
		}
	}
}

// 0.3, 0.8: none is a nil list, and so is what stands beside an error or a false.
func TestNoneIsNil(t *testing.T) {
	for _, s := range []string{"", "   ", ";", "a;", "A", "a x", "a;a", "a;b;c;d;e;f;g", strings.Repeat(" ", 2001)} {
		if got, _, _ := need.Read(s); got != nil {
			t.Errorf("Read(%.40q) = %v, not nil", s, got)
		}
	}
	if got, _, _ := need.Read("a none"); len(got) != 1 || got[0].In != nil {
		t.Errorf("Read of none = %v", got)
	}
	if got := need.Both([]api.Need{}, []api.Need{}); got != nil {
		t.Errorf("Both of none = %v, not nil", got)
	}
	for _, l := range [][]api.Need{nil, {}, named("a", "b"), {of("c")}, {{Name: "c", In: []api.Span{}}}} {
		if got, _ := need.Find(l, "c"); got != nil {
			t.Errorf("Find(%v) = %v, not nil", l, got)
		}
	}
}

// 0.1: no call panics, or goes on for ever, at any text or list.
func TestAnyTextsAndLists(t *testing.T) {
	for _, c := range []string{";", " ", "a", "A", "a;", "a any;", "any ", "|", "=1.0.0", "\x00", "\xff", "\xe2\x89", "ω", "ω ω;", " ;", "a |;", "a =1.0.0|=2.0.0;"} {
		for _, n := range []int{1, 2, 7, 50, 133, 399, 400, 401, 1999, 2000, 2001, 1 << 12, 1 << 18} {
			s := strings.Repeat(c, n)
			need.Read(s)
			need.Read(s[:min(len(s), need.MaxText)])
			need.Find(named("a"), s)
			need.Show(named(s))
		}
	}
	some := lists()
	numbers := []int{math.MinInt, -1, 0, 1, 1000, 999999999, 1000000000, 1000000001, math.MaxInt}
	for _, lo := range numbers {
		for _, hi := range numbers {
			some = append(some, list(of("a", lo, hi)), list(of("a", lo, hi, 5, 9), of("", hi, lo)), list(of("b", 5, 9, lo, hi, lo, hi), of("a", hi, lo), of("a", 1, 2)))
		}
	}
	for _, a := range some {
		need.Check(a)
		need.Show(a)
		for _, b := range some {
			need.Both(a, b)
			need.Same(a, b)
		}
	}
}
