package pick_test

import (
	"math"
	"slices"
	"strings"
	"testing"
	"unsafe"

	"comprador/api"
	"comprador/pick"
)

// deep is a copy of picks that shares no memory with them.
func deep(l []api.Pick) []api.Pick {
	var c []api.Pick
	for _, p := range l {
		c = append(c, of(strings.Clone(p.Name), p.Ver))
	}
	return c
}

// behind are picks that lie behind a list's length.
var behind = list(of("a", -77), of("zz", 100), of("b", 1<<40), api.Pick{})

// stretch is a copy of picks, with others behind its length.
func stretch(l []api.Pick) []api.Pick {
	return append(deep(l), behind...)[:len(l)]
}

// stays fails, if a list that was stretched, or what lies behind it, was changed.
func stays(t *testing.T, l, was []api.Pick) {
	t.Helper()
	long := l[:len(l)+len(behind)]
	if !alike(l, was) || !alike(long[len(l):], behind) {
		t.Fatalf("%.200v became %.200v", was, long)
	}
}

// within tells whether two texts share memory.
func within(a, b string) bool {
	at := uintptr(unsafe.Pointer(unsafe.StringData(a)))
	from := uintptr(unsafe.Pointer(unsafe.StringData(b)))
	return at < from+uintptr(len(b)) && from < at+uintptr(len(a))
}

// 0.5, 0.8: what is given is not changed, and nothing behind a length is read, written, or handed out.
func TestGivenListsStay(t *testing.T) {
	for _, was := range append(slices.Clone(mayBe), mayNot...) {
		l := stretch(was)
		if pick.Check(l) != pick.Check(was) || pick.Show(l) != pick.Show(was) || !pick.Same(l, was) || !pick.Same(was, l) {
			t.Fatalf("of %.200v what is behind it was read", was)
		}
		stays(t, l, was)
	}
	for _, was := range mayBe {
		l := stretch(was)
		for _, name := range []string{"", "a", "aaac", "b", "m", "zz", "α", "ω"} {
			got, ok := pick.Get(l, name)
			if want, also := pick.Get(was, name); got != want || ok != also {
				t.Fatalf("Get(%.200v, %q) = %d, %v", was, name, got, ok)
			}
			for _, answer := range [][]api.Pick{pick.Put(l, of(name, 5)), pick.Drop(l, name)} {
				for _, p := range answer[:cap(answer)] {
					if p.Ver == -77 || p.Ver == 1<<40 || p.Name == "zz" && name != "zz" {
						t.Fatalf("of %.200v what is behind it is handed out", was)
					}
				}
				for i := range answer[:cap(answer)] {
					answer[:cap(answer)][i] = of("spoilt", -1)
				}
			}
			stays(t, l, was)
		}
	}
}

// 0.5: what is answered is new memory, each time, and stays as it was told.
func TestAnswersAreNew(t *testing.T) {
	l := list(of("a", 1), of("c", 2), of("e", 3))
	for _, f := range []func() []api.Pick{
		func() []api.Pick { return pick.Put(l, of("b", 5)) },
		func() []api.Pick { return pick.Put(l, of("c", 5)) },
		func() []api.Pick { return pick.Put(l, of("f", 5)) },
		func() []api.Pick { return pick.Drop(l, "a") },
		func() []api.Pick { return pick.Drop(l, "e") },
		func() []api.Pick { return pick.Drop(l, "x") },
		func() []api.Pick { got, _ := pick.Read("a 0.0.1, c 0.0.2, e 0.0.3"); return got },
	} {
		first := f()
		was := deep(first)
		again := f()
		for i := range again[:cap(again)] {
			again[:cap(again)][i] = of("spoilt", -1)
		}
		if !alike(first, was) || !alike(f(), was) {
			t.Errorf("%v became %v, %v", was, first, f())
		}
		// What is put to an answer does not come to another one.
		pick.Put(first, of("zz", 9))
		_ = append(first, of("zz", 9))
		if !alike(f(), was) || !alike(l, list(of("a", 1), of("c", 2), of("e", 3))) {
			t.Errorf("%v became %v, %v", was, f(), l)
		}
	}
}

// 0.5: the texts, too, that are told share no memory with what was given, nor with one another.
func TestTextsAreNew(t *testing.T) {
	long := strings.Repeat("abc", 4)
	l := list(of(long[:4], 1), of(long[1:5], 2), of(long[2:6], 3))
	text := "abca 0.0.1, bcab 0.0.2, cabc 0.0.3"
	read, ok := pick.Read(text)
	if !ok || !pick.Check(l) {
		t.Fatal("the picks may not be")
	}
	var texts []string
	for _, answer := range [][]api.Pick{pick.Put(l, of(long[3:8], 4)), pick.Put(l, of(long[:4], 4)), pick.Put(nil, of(long[:4], 4)), pick.Drop(l, "abca"), pick.Drop(l, "x"), read} {
		for _, p := range answer {
			texts = append(texts, p.Name)
		}
	}
	for range 2 {
		texts = append(texts, pick.Show(l), pick.Show(l[:1]))
	}
	if len(texts) != 4+3+1+2+3+3+4 {
		t.Fatalf("there are %d texts", len(texts))
	}
	for i, s := range texts {
		if within(s, long) || within(s, text) {
			t.Errorf("%q is in the memory of what was given", s)
		}
		for _, other := range texts[:i] {
			if within(s, other) {
				t.Errorf("two texts %q share memory", s)
			}
		}
	}
}

// 0.3, 0.8: none is a nil list, and so is what stands beside a false.
func TestNoneIsNil(t *testing.T) {
	for _, s := range []string{"nothing", "", "a", "a 1.0.0, b", "a 1.0.0, a 1.0.0", "b 1.0.0, a 1.0.0", "a 1.0.0, ", "a 1.0.0, A 1.0.0", strings.Repeat(" ", 4001)} {
		if got, _ := pick.Read(s); got != nil {
			t.Errorf("Read(%.40q) = %v, not nil", s, got)
		}
	}
	for _, l := range [][]api.Pick{nil, {}, list(of("a", 1)), list(of("a", 1), of("b", 2))[:1], list(of("a", 1))[:0]} {
		if got := pick.Drop(l, "a"); got != nil {
			t.Errorf("Drop(%v) = %#v, not nil", l, got)
		}
	}
}

// 0.1: no call panics, or goes on for ever, at any text or list.
func TestAnyTextsAndLists(t *testing.T) {
	for _, c := range []string{",", " ", ", ", "a", "A", "a ", "a, ", "nothing", "nothing, ", "a 1.0.0", "a 1.0.0, ", ".", "0", "\x00", "\xff", "\xe2\x89", "ω", "ω ω, "} {
		for _, n := range []int{1, 2, 7, 50, 133, 399, 444, 445, 2000, 3999, 4000, 4001, 1 << 12, 1 << 18} {
			s := strings.Repeat(c, n)
			pick.Read(s)
			pick.Read(s[:min(len(s), pick.MaxText)])
			pick.Get(named("a", "b"), s)
			pick.Drop(named("a", "b"), s)
			pick.Put(named("a", "b"), of(s, 5))
			pick.Show(named(s))
			pick.Check(named(s))
		}
	}
	some := append(slices.Clone(mayBe), mayNot...)
	for _, place := range []int{math.MinInt, -1, 0, 999999999, 1000000000, math.MaxInt} {
		some = append(some, list(of("a", place)), list(of("b", place), of("a", place)), list(of("a", place), of("a", place), of("", place)), slices.Repeat(list(of("m", place)), 1000), slices.Repeat(list(of("z", place), of("a", place)), 1000))
	}
	for _, l := range some {
		for _, name := range []string{"", "A", "a", "aaab", "m", "z", "α", "\xff"} {
			pick.Get(l, name)
			pick.Drop(l, name)
			for _, place := range []int{math.MinInt, -1, 0, 1000000000, math.MaxInt} {
				pick.Put(l, of(name, place))
			}
		}
		pick.Show(l)
		for _, other := range some {
			pick.Same(l, other)
		}
	}
}

// 0.1, P15.3: many picks, more than a text may have.
func TestManyPicks(t *testing.T) {
	names := letters(100000)
	l := named(names...)
	if !pick.Check(l) || pick.Check(append(slices.Clone(l), of("aaaa", 1))) {
		t.Error("whether they may be is not told")
	}
	for i := 0; i < len(l); i += 997 {
		if got, ok := pick.Get(l, names[i]); !ok || got != l[i].Ver {
			t.Fatalf("Get of %q = %d, %v", names[i], got, ok)
		}
		if _, ok := pick.Get(l, names[i]+"-"); ok {
			t.Fatalf("Get of %q- = true", names[i])
		}
	}
	for _, i := range []int{0, 1, 50000, 99998, 99999} {
		if got := pick.Drop(l, names[i]); !alike(got, slices.Delete(slices.Clone(l), i, i+1)) {
			t.Fatalf("Drop of %q tells other picks", names[i])
		}
		if got := pick.Put(l, of(names[i]+"-", 5)); !alike(got, slices.Insert(slices.Clone(l), i+1, of(names[i]+"-", 5))) {
			t.Fatalf("Put of %q- tells other picks", names[i])
		}
	}
	s := pick.Show(l)
	if s != strings.Join(pieces(l), ", ") {
		t.Error("Show of many picks is another text")
	}
	isNone(t, s)
}

// pieces are the texts of picks, one by one.
func pieces(l []api.Pick) []string {
	var texts []string
	for _, p := range l {
		texts = append(texts, shown(list(p)))
	}
	return texts
}
