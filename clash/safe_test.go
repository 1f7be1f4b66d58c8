package clash_test

import (
	"math"
	"slices"
	"strings"
	"testing"
	"unsafe"

	"comprador/api"
	"comprador/clash"
)

// What lies behind the lengths of lists.
var (
	behindSpans = spans(100, 200, -5, 1<<40)
	behindTerms = list(in("a", 0, 1), in("a"), in("", 9, 5), or(in("β")))
	behindPicks = []api.Pick{{Name: "a", Ver: 3}, {Name: "zz", Ver: -1}}
)

// stretch is a copy of a list, with others behind its length.
func stretch[T any](l, behind []T) []T {
	return slices.Concat(l, behind)[:len(l)]
}

// stretched is a copy of terms, with others behind their length, and spans behind those of their lists.
func stretched(c []api.Term) []api.Term {
	c = stretch(c, behindTerms)
	for i := range c {
		c[i].In = stretch(c[i].In, behindSpans)
	}
	return c
}

// stays fails, if terms that were stretched, or what lies behind their lengths, were changed.
func stays(t *testing.T, c, was []api.Term) {
	t.Helper()
	if !same(c, was) || !same(c[len(c):len(c)+len(behindTerms)], behindTerms) {
		t.Fatalf("%s became %s", brief(was), brief(c))
	}
	for _, x := range c {
		if !slices.Equal(x.In[len(x.In):len(x.In)+len(behindSpans)], behindSpans) {
			t.Fatalf("what lies behind %s was changed", brief(was))
		}
	}
}

// spoil writes into all memory that terms have.
func spoil(c []api.Term) {
	for _, x := range c[:cap(c)] {
		for i := range x.In[:cap(x.In)] {
			x.In[:cap(x.In)][i] = api.Span{Lo: -77, Hi: -77}
		}
	}
	for i := range c[:cap(c)] {
		c[:cap(c)][i] = api.Term{Name: "spoilt"}
	}
}

// within tells whether two texts share memory.
func within(a, b string) bool {
	at := uintptr(unsafe.Pointer(unsafe.StringData(a)))
	from := uintptr(unsafe.Pointer(unsafe.StringData(b)))
	return at < from+uintptr(len(b)) && from < at+uintptr(len(a))
}

// found is what Find tells, as a list.
func found(c []api.Term, name string) []api.Term {
	x, _ := clash.Find(c, name)
	return list(x)
}

// made is what Make tells.
func made(l ...api.Term) []api.Term {
	c, _ := clash.Make(l...)
	return c
}

// joined is what Join tells.
func joined(a, b []api.Term, name string) []api.Term {
	c, _ := clash.Join(a, b, name)
	return c
}

// 0.5, 0.8: what is given is not changed, no answer shares memory with it, and nothing behind a length is read, written, or handed out.
func TestGivenListsStay(t *testing.T) {
	l := all()
	some := choices()
	for i, m := range l {
		n, p := l[(i*5+3)%len(l)], some[i%len(some)]
		wasA, wasB := m.clash(), n.clash()
		a, b, picks := stretched(wasA), stretched(wasB), stretch(p.picks, behindPicks)
		for _, name := range three {
			for _, c := range []struct {
				call      string
				got, want []api.Term
			}{
				{"Make", made(append(a[:len(a):len(a)], b...)...), made(append(deep(wasA), deep(wasB)...)...)},
				{"Make of one clash", made(a...), wasA},
				{"Find", found(a, name), found(deep(wasA), name)},
				{"Join", joined(a, b, name), joined(deep(wasA), deep(wasB), name)},
				{"Join of one clash", joined(a, a, name), joined(deep(wasA), deep(wasA), name)},
			} {
				if !same(c.got, c.want) {
					t.Fatalf("%s = %v, not %v, by what lies behind lengths", c.call, c.got, c.want)
				}
				for _, x := range append(c.got, c.got[len(c.got):cap(c.got)]...) {
					if extra := x.In[len(x.In):cap(x.In)]; slices.Contains(extra, behindSpans[0]) {
						t.Fatalf("%s hands out what lies behind a length", c.call)
					}
				}
				spoil(c.got)
				stays(t, a, wasA)
				stays(t, b, wasB)
			}
		}
		if !clash.Check(a) || clash.Same(a, b) != same(wasA, wasB) || clash.Holds(a, picks) != m.holds(p.states) || clash.Show(a) != clash.Show(wasA) {
			t.Fatalf("of %v, %v, %v something is told that is not so", a, b, picks)
		}
		stays(t, a, wasA)
		stays(t, b, wasB)
		if !slices.Equal(picks[:len(picks)+len(behindPicks)], append(slices.Clone(p.picks), behindPicks...)) {
			t.Fatalf("the picks became %v", picks)
		}
	}
	for _, was := range mayNot() {
		c := stretched(was)
		if clash.Check(c) || !clash.Same(c, was) || clash.Holds(c, nil) != clash.Holds(was, nil) || clash.Show(c) != clash.Show(was) {
			t.Fatalf("of %s something is told that is not so", brief(was))
		}
		name := was[0].Name
		for _, got := range [][]api.Term{made(c...), found(c, name), joined(c, c, name)} {
			spoil(got)
			stays(t, c, was)
		}
	}
}

// 0.5: what is answered is new memory, each time, and stays as it was told; no two lists of one answer share any.
func TestAnswersAreNew(t *testing.T) {
	a := list(or(in("a", 1, 9)), in("b", 5, 12, 20, 30), or(in("c")))
	b := list(in("a", 8, 20), or(in("c", 3, 4)), in("d", 1, 2))
	for _, f := range []func() []api.Term{
		func() []api.Term { return made(a...) },
		func() []api.Term { return made(append(deep(a), b...)...) },
		func() []api.Term { return made(a[1], a[1], a[0]) },
		func() []api.Term { return found(a, "b") },
		func() []api.Term { return found(a, "d") },
		func() []api.Term { return joined(a, b, "a") },
		func() []api.Term { return joined(a, b, "c") },
		func() []api.Term { return joined(a, a, "b") },
	} {
		first := f()
		was := deep(first)
		spoil(f())
		if !same(first, was) {
			t.Errorf("an answer %v became %v, as another one was changed", was, first)
		}
		for i := range first {
			for j := range first[i].In {
				first[i].In[j] = api.Span{Lo: -77, Hi: -77}
			}
			if !same(first[i+1:], was[i+1:]) {
				t.Errorf("two lists of %v share memory", was)
			}
		}
		spoil(first)
		if got := f(); !same(got, was) {
			t.Errorf("behind a change of an answer %v is told, not %v", got, was)
		}
	}
}

// 0.5: the texts, too, that are told share no memory with what was given, nor with one another.
func TestTextsAreNew(t *testing.T) {
	text := "abcdefghijkl" + "bcdefghijklm" + "cdefghijklmn"
	one, two, other := text[:12], text[12:24], text[24:]
	a, b := list(in(one, 1, 9), in(two, 5, 9)), list(in(one, 4, 12), or(in(two, 7, 8)))
	var l []string
	for range 2 {
		for _, c := range [][]api.Term{made(a...), made(a[0], b[0], b[1]), found(a, one), found(a, two), found(a, other), joined(a, b, one), joined(b, a, two)} {
			for _, x := range c {
				l = append(l, x.Name)
			}
		}
		l = append(l, clash.Show(a), clash.Show(a[:1]))
	}
	if len(l) != 26 {
		t.Fatalf("there are %d texts", len(l))
	}
	for i, s := range l {
		if s == "" || within(s, text) {
			t.Errorf("%q is in the memory of what was given", s)
		}
		for _, other := range l[:i] {
			if within(s, other) {
				t.Errorf("two texts %q share memory", s)
			}
		}
	}
}

// 0.3, 0.8: no terms and no spans are none.
func TestNoneIsNil(t *testing.T) {
	a, none := in("a", 1, 2), api.Term{Name: "a", In: []api.Span{}}
	for call, got := range map[string][]api.Term{
		"Make of nothing":       made(),
		"Make of an empty list": made([]api.Term{}...),
		"Make of a full one":    made(or(in("a", 0, top))),
		"Make of an empty one":  made(a, none),
		"Join to always":        joined(list(in("a", 0, top)), list(or(none)), "a"),
		"Join over another one": joined(list(a), list(a), "b"),
	} {
		if got != nil {
			t.Errorf("%s = %#v: not nil", call, got)
		}
	}
	for call, got := range map[string][]api.Term{
		"Make of absent": made(or(none), or(none)),
		"Find of absent": found(list(or(none)), "a"),
		"Join of absent": joined(list(or(none)), list(or(none)), "a"),
	} {
		if len(got) != 1 || got[0].In != nil {
			t.Errorf("%s = %#v: not nil", call, got)
		}
	}
}

// DOC.md, the language's rule 5: what is told does not hang on how a map is gone through.
func TestToldAgain(t *testing.T) {
	c := named(letters(200)...)
	back := slices.Clone(c)
	slices.Reverse(back)
	for range 50 {
		got, ok := clash.Make(back...)
		is(t, "Make", got, ok, c, true)
	}
}

// 0.1: no call panics, or goes on for ever, at any lists.
func TestAnyLists(t *testing.T) {
	l := append(mayNot(), nil, named(goodNames...), make([]api.Term, 1000), slices.Repeat(list(in("a", 5, 9, 1, 3), or(in("a", 3, 1))), 500))
	for _, lo := range []int{math.MinInt, -1, 0, 1, 999999999, top, math.MaxInt} {
		for _, hi := range []int{math.MinInt, -1, 0, 1, 999999999, top, math.MaxInt} {
			l = append(l, list(in("a", lo, hi), or(in("b", lo, hi, lo, hi))), list(or(in("a", lo, hi, 5, 9)), in("a", 5, 9, lo, hi), in("", lo, hi)))
		}
	}
	for _, name := range []string{"", "\xff", strings.Repeat("\xce", 1<<12), strings.Repeat("a ", 1<<12)} {
		l = append(l, list(in(name, 0, top), or(in(name)), api.Term{Name: name, In: make([]api.Span, 1000)}))
	}
	picks := [][]api.Pick{
		nil, {{}}, {{Name: "a", Ver: 1}}, {{Name: "a", Ver: -1}}, {{Name: "b", Ver: math.MaxInt}, {Name: "a", Ver: math.MinInt}}, {{Name: "a", Ver: 1}, {Name: "a", Ver: 2}}, make([]api.Pick, 1000),
	}
	for i, a := range l {
		clash.Check(a)
		clash.Make(a...)
		clash.Show(a)
		for _, p := range picks {
			clash.Holds(a, p)
		}
		for _, name := range []string{"", "a", "b", "A", "\xff", strings.Repeat("a", 1<<12)} {
			clash.Find(a, name)
			clash.Join(a, a, name)
			for j := i % 7; j < len(l); j += 7 {
				clash.Join(a, l[j], name)
				clash.Same(a, l[j])
			}
		}
	}
}
