package term_test

import (
	"math"
	"slices"
	"strings"
	"testing"
	"unsafe"

	"comprador/api"
	"comprador/term"
)

// behind are spans that lie behind a list's length.
var behind = spans(100, 200, 300, 400, -5, 1<<40, 7, 3)

// stretch is a copy of a term, with spans behind its list's length.
func stretch(x api.Term) api.Term {
	x.In = append(append(make([]api.Span, 0, len(x.In)+len(behind)), x.In...), behind...)[:len(x.In)]
	return x
}

// stays fails, if a term that was stretched, or what lies behind its list, was changed.
func stays(t *testing.T, call string, x, was api.Term) {
	t.Helper()
	if !alike(x, was) || !slices.Equal(x.In[len(x.In):len(x.In)+len(behind)], behind) {
		t.Fatalf("%s: %s became %s", call, brief(was), brief(x))
	}
}

// spoil writes into all memory that a term's list has.
func spoil(x api.Term) {
	for i := range x.In[:cap(x.In)] {
		x.In[:cap(x.In)][i] = api.Span{Lo: -77, Hi: -77}
	}
}

// within tells whether two texts share memory.
func within(a, b string) bool {
	at := uintptr(unsafe.Pointer(unsafe.StringData(a)))
	from := uintptr(unsafe.Pointer(unsafe.StringData(b)))
	return at < from+uintptr(len(b)) && from < at+uintptr(len(a))
}

// 0.5, 0.8: what is given is not changed, no answer shares memory with it, and nothing behind a length is read, written, or handed out.
func TestGivenTermsStay(t *testing.T) {
	for m := range every + 1 {
		for _, n := range []int{0, m, m >> 1, every &^ m, every} {
			was, other := set("a", m), set("a", n)
			a, b := stretch(was), stretch(other)
			for _, c := range []struct {
				call      string
				got, want api.Term
			}{
				{"Not", term.Not(a), set("a", every&^m)},
				{"Meet", term.Meet(a, b), set("a", m&n)},
				{"Join", term.Join(a, b), set("a", m|n)},
			} {
				is(t, c.call, c.got, c.want)
				spoil(c.got)
				stays(t, c.call, a, was)
				stays(t, c.call, b, other)
			}
			if !term.Check(a) || term.Full(a) != (m == every) || term.Empty(a) != (m == 0) || term.Within(a, b) != (m&^n == 0) || term.Same(a, b) != (m == n) || term.Has(a, 150, true) != (m>>3&1 == 1) || term.Show(a) != shown(was) {
				t.Fatalf("of %v, %v something is told that is not so", a, b)
			}
			stays(t, "a call that tells", a, was)
			stays(t, "a call that tells", b, other)
		}
	}
	for _, was := range mayNot() {
		a, b := stretch(was), stretch(was)
		if term.Check(a) || !term.Same(a, b) || term.Show(a) != "" {
			t.Fatalf("of %s something is told that is not so", brief(was))
		}
		for _, got := range []api.Term{term.Not(a), term.Meet(a, b), term.Join(a, b)} {
			spoil(got)
		}
		stays(t, "of a term that may not be", a, was)
		stays(t, "of a term that may not be", b, was)
	}
}

// 0.5: what is answered is new memory, each time, and stays as it was told.
func TestAnswersAreNew(t *testing.T) {
	a, b := or(in("a", 1, 9)), in("a", 5, 12, 20, 30)
	for _, f := range []func() api.Term{
		func() api.Term { return term.Not(a) },
		func() api.Term { return term.Not(in("a")) },
		func() api.Term { return term.Meet(a, b) },
		func() api.Term { return term.Meet(a, a) },
		func() api.Term { return term.Join(a, b) },
		func() api.Term { return term.Join(a, in("a")) },
		func() api.Term { return term.Join(in("a"), or(in("a", 0, top))) },
	} {
		first := f()
		was := api.Term{Name: first.Name, In: slices.Clone(first.In), None: first.None}
		spoil(f())
		is(t, "an answer, behind a change of another one,", first, was)
		spoil(first)
		is(t, "an answer, behind a change of an earlier one,", f(), was)
	}
	is(t, "what was given", a, or(in("a", 1, 9)))
	is(t, "what was given", b, in("a", 5, 12, 20, 30))
}

// 0.5: the texts, too, that are told share no memory with what was given, nor with one another.
func TestTextsAreNew(t *testing.T) {
	text := strings.Repeat("abc", 4)
	a, b := or(in(text[:6], 1, 9)), in(text[6:], 5, 12)
	var l []string
	for range 2 {
		for _, x := range []api.Term{term.Not(a), term.Not(b), term.Meet(a, b), term.Meet(b, a), term.Meet(a, a), term.Join(a, b), term.Join(b, a), term.Join(b, b)} {
			l = append(l, x.Name)
		}
		l = append(l, term.Show(a), term.Show(b))
	}
	for i, s := range l {
		if s == "" || within(s, text) {
			t.Errorf("%q is in the memory of what was given", s)
		}
		for _, other := range l[:i] {
			if within(s, other) {
				t.Errorf("two texts %q share memory", s)
			}
		}
	}
}

// 0.8: no spans are none, and of unlike names all is zero.
func TestNoneIsNil(t *testing.T) {
	none := api.Term{Name: "a", In: []api.Span{}}
	for call, got := range map[string]api.Term{
		"Not of all":         term.Not(in("a", 0, top)),
		"Not of whatever":    term.Not(or(in("a", 0, top))),
		"Meet":               term.Meet(in("a", 1, 2), in("a", 2, 3)),
		"Meet of none":       term.Meet(none, none),
		"Join of none":       term.Join(none, or(none)),
		"Meet of other ones": term.Meet(none, in("b")),
		"Join of other ones": term.Join(none, in("b", 1, 2)),
	} {
		if got.In != nil {
			t.Errorf("%s = %#v: not nil", call, got)
		}
	}
}

// 0.1: no call panics, or goes on for ever, at any terms.
func TestAnyTerms(t *testing.T) {
	l := append(mayBe(), mayNot()...)
	for _, place := range []int{math.MinInt, -1, 0, 1, 999999999, top, math.MaxInt} {
		for _, other := range []int{math.MinInt, -1, 0, 1, 999999999, top, math.MaxInt} {
			for _, ends := range [][]int{{place, other}, {place, other, 5, 9}, {5, 9, place, other}, {place, other, place, other}} {
				l = append(l, in("a", ends...), or(in("a", ends...)), or(in("", ends...)))
			}
		}
	}
	for _, name := range []string{"", "a", "\xff", strings.Repeat("\xce", 1<<12), strings.Repeat("a ", 1<<12)} {
		l = append(l, in(name, 0, top), or(in(name)), api.Term{Name: name, In: make([]api.Span, 1000)}, or(api.Term{Name: name, In: slices.Repeat(spans(5, 9, 1, 3), 1000)}))
	}
	for i, a := range l {
		term.Check(a)
		term.Full(a)
		term.Empty(a)
		term.Not(a)
		term.Show(a)
		for _, place := range []int{math.MinInt, -1, 0, 5, top - 1, top, math.MaxInt} {
			term.Has(a, place, true)
			term.Has(a, place, false)
		}
		for j := i % 61; j < len(l); j += 61 {
			b := l[j]
			// The same name, too, so that the spans are put together.
			for _, name := range []string{b.Name, a.Name} {
				b.Name = name
				term.Meet(a, b)
				term.Join(a, b)
				term.Within(a, b)
				term.Same(a, b)
			}
		}
	}
}
