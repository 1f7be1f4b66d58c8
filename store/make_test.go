package store_test

import (
	"fmt"
	"math"
	"slices"
	"strings"
	"testing"

	"comprador/api"
	"comprador/store"
)

// top is behind the last place of a version.
const top = 1000000000

// spans are those that begin and end at numbers, two by two.
func spans(ends ...int) []api.Span {
	var l []api.Span
	for i := 0; i < len(ends); i += 2 {
		l = append(l, api.Span{Lo: ends[i], Hi: ends[i+1]})
	}
	return l
}

// in is the term that a package is chosen in the versions between some ends.
func in(name string, ends ...int) api.Term {
	return api.Term{Name: name, In: spans(ends...)}
}

// or is a term, or that its package is not chosen.
func or(t api.Term) api.Term {
	t.None = true
	return t
}

// absent is the term that a package is not chosen.
func absent(name string) api.Term { return or(in(name)) }

// list is a list of terms.
func list(l ...api.Term) []api.Term { return l }

// letters are n names that may be, and rise, of four letters each.
func letters(n int) []string {
	var l []string
	for i := range n {
		l = append(l, string([]byte{byte('a' + i/17576%26), byte('a' + i/676%26), byte('a' + i/26%26), byte('a' + i%26)}))
	}
	return l
}

// goodNames are names that may be, by their order; some are the beginnings of others.
var goodNames = []string{"a", "a-", "a-1", "a0", "aa", "abcdefghijkl", "absent", "aα", "b", "z", "z9", "α", "α-1", "αa", "αβγδεζηθικλμ", "β", "ω"}

// badNames are names that may not be.
var badNames = []string{
	"", " ", "A", "1", "-", "1a", "-a", "a b", " a", "a ", "a_", "a\x00", "\x00", "Ω", "é", "\xce", "a\xce", "\xff", "a\xff",
	"abcdefghijklm", "αβγδεζηθικλμν", strings.Repeat("a", 25), strings.Repeat("ω", 13), strings.Repeat("a", 9000),
}

// far are numbers that are no clash's, of a store of so many.
func far(n int) []int {
	return []int{math.MinInt, math.MinInt + 1, -1 << 31, -2, -1, n, n + 1, n + 2, 1 << 31, math.MaxInt - 1, math.MaxInt}
}

// alike tells whether terms are alike; an empty list must be none.
func alike(a, b api.Term) bool {
	return a.Name == b.Name && a.None == b.None && slices.Equal(a.In, b.In) && (a.In == nil) == (len(b.In) == 0)
}

// same tells whether what is kept is what should be; an empty list must be none.
func same(a, b store.Item) bool {
	return slices.EqualFunc(a.Terms, b.Terms, alike) && (a.Terms == nil) == (len(b.Terms) == 0) && a.Step == b.Step && a.Learned == b.Learned && a.Gone == b.Gone
}

// brief is what is printed of something, which may be long.
func brief(x any) string {
	return fmt.Sprintf("%.300s", fmt.Sprint(x))
}

// item is what is kept of a clash that lives.
func item(step int, learned bool, c ...api.Term) store.Item {
	return store.Item{Terms: c, Step: step, Learned: learned}
}

// gone is an item of a clash that was dropped.
func gone(x store.Item) store.Item {
	x.Gone = true
	return x
}

// add puts a clash in, which must have the number that is next.
func add(t *testing.T, s *store.Store, step int, learned bool, c ...api.Term) {
	t.Helper()
	next := s.Len()
	if got := s.Add(c, step, learned); got != next || s.Len() != next+1 {
		t.Fatalf("Add = %d, and Len = %d, behind %d", got, s.Len(), next)
	}
}

// drops fails, if a Drop tells another thing than it should.
func drops(t *testing.T, s *store.Store, i int, want bool) {
	t.Helper()
	if got := s.Drop(i); got != want {
		t.Fatalf("Drop of %d = %v", i, got)
	}
}

// tells fails, if a list of numbers is another one; none must be nil.
func tells(t *testing.T, call string, got, want []int) {
	t.Helper()
	if !slices.Equal(got, want) || (got == nil) != (len(want) == 0) {
		t.Fatalf("%s = %s, not %s", call, brief(got), brief(want))
	}
}

// numbers are those of the items that are wanted: all are gone through.
func numbers(l []store.Item, wanted func(store.Item) bool) []int {
	var some []int
	for i, x := range l {
		if wanted(x) {
			some = append(some, i)
		}
	}
	return some
}

// has fails, if a store has not just some items, or tells another thing of them, or of names, theirs or others.
func has(t *testing.T, s *store.Store, want ...store.Item) {
	t.Helper()
	if s.Len() != len(want) {
		t.Fatalf("Len = %d, not %d", s.Len(), len(want))
	}
	names := []string{"", "zz"}
	for i, x := range want {
		got, ok := s.Get(i)
		if !ok || !same(got, x) {
			t.Fatalf("Get of %d = %s, %v, not %s", i, brief(got), ok, brief(x))
		}
		for _, term := range x.Terms {
			names = append(names, term.Name, term.Name+"x", term.Name[:len(term.Name)/2])
		}
	}
	for _, i := range far(len(want)) {
		if got, ok := s.Get(i); ok || !same(got, store.Item{}) {
			t.Fatalf("Get of %d, of %d = %s, %v", i, len(want), brief(got), ok)
		}
	}
	tells(t, "Live", s.Live(), numbers(want, func(x store.Item) bool { return !x.Gone }))
	tells(t, "Learned", s.Learned(), numbers(want, func(x store.Item) bool { return !x.Gone && x.Learned }))
	for _, name := range names {
		tells(t, "About "+name, s.About(name), about(want, name))
	}
}

// about are the numbers of the items that live, and have a term of a name.
func about(l []store.Item, name string) []int {
	return numbers(l, func(x store.Item) bool {
		return !x.Gone && slices.ContainsFunc(x.Terms, func(t api.Term) bool { return t.Name == name })
	})
}

// drawer draws numbers from 0 on, below n: the same ones for each seed.
func drawer(seed uint64) func(n int) int {
	return func(n int) int {
		seed = seed*6364136223846793005 + 1442695040888963407
		return int(seed>>33) % n
	}
}
