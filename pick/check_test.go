package pick_test

import (
	"math"
	"slices"
	"strings"
	"testing"

	"comprador/api"
	"comprador/pick"
)

// of is a pick.
func of(name string, place int) api.Pick {
	return api.Pick{Name: name, Ver: place}
}

// list is a list of picks.
func list(l ...api.Pick) []api.Pick { return l }

// named are picks of some names, in versions that fall, so that the names alone tell how picks stand.
func named(names ...string) []api.Pick {
	var l []api.Pick
	for i, name := range names {
		l = append(l, of(name, 999999999-7*i))
	}
	return l
}

// alike tells whether picks are alike, without the package that tells it.
func alike(a, b []api.Pick) bool {
	if len(a) != len(b) {
		return false
	}
	for i := range a {
		if a[i].Name != b[i].Name || a[i].Ver != b[i].Ver {
			return false
		}
	}
	return true
}

// letters are n names that may be, and rise, of four letters each.
func letters(n int) []string {
	var l []string
	for i := range n {
		l = append(l, string([]byte{byte('a' + i/17576%26), byte('a' + i/676%26), byte('a' + i/26%26), byte('a' + i%26)}))
	}
	return l
}

// mayBe are picks that may be.
var mayBe = [][]api.Pick{
	nil, {}, named("a"), named("ω"), named("a-1"), named("abcdefghijkl"), named("αβγδεζηθικλμ"), named("nothing"), named("a", "b"), named("a", "aa"), named("a", "a-"), named("a-", "a0", "aa", "aα"), named("z", "α"), named("z9", "α", "αa", "β"),
	{of("a", 0)}, {of("a", 1)}, {of("a", 999)}, {of("a", 1000)}, {of("a", 999999)}, {of("a", 1000000)}, {of("a", 1002003)}, {of("a", 999999998)}, {of("a", 999999999)},
	{of("a", 1000000), of("b", 2001000)}, {of("a", 5), of("b", 5), of("c", 5)}, {of("a", 0), of("b", 0)}, {of("a", 1), of("b", 2), of("c", 3)}, {of("a", 3), of("b", 2), of("c", 1)},
	named(letters(7)...), named(letters(25)...), named(letters(100)...), named(letters(101)...), named(letters(5000)...),
}

// mayNot are picks that may not be.
var mayNot = [][]api.Pick{
	// names that may not be
	named(""), named("1a"), named("-a"), named("-"), named("7"), named("A"), named("a b"), named(" a"), named("a "), named("a,"), named("a, b"), named("a."), named("a_"), named("Ω"), named("é"), named("\xff"), named("a\xff"), named("\xce"), named("a\x00"), named("abcdefghijklm"), named("αβγδεζηθικλμν"), named(strings.Repeat("a", 25)), named(strings.Repeat("a", 4000)),
	named("", "a"), named("a", ""), named("a", "b_"), named("a", "b", "c "), named("A", "b"), named("1", "a"), named("a", "b", "αβγδεζηθικλμν"), named("a", "éa", "α"),
	// names that do not rise
	named("a", "a"), named("b", "a"), named("aa", "a"), named("a0", "a-"), named("a", "a0", "a-"), named("α", "z"), named("β", "α"), named("a", "b", "b"), named("a", "a", "b"), named("a", "c", "b"), named("b", "a", "c"), named("a", "b", "a"),
	{of("a", 5), of("a", 5)}, {of("a", 5), of("a", 6)}, {of("a", 6), of("a", 5)}, append(named(letters(100)...), of("aaaa", 5)), append(named("b"), named(letters(100)...)...),
	// numbers that are no places
	{of("a", -1)}, {of("a", 1000000000)}, {of("a", 1000000001)}, {of("a", -1000000)}, {of("a", 1<<32)}, {of("a", 1<<32+5)}, {of("a", math.MinInt)}, {of("a", math.MaxInt)}, {of("a", math.MinInt32)}, {of("a", math.MaxInt32)},
	{of("a", 1), of("b", -1)}, {of("a", -1), of("b", 1)}, {of("a", 1), of("b", 1000000000), of("c", 1)}, {of("a", 1), of("b", 1), of("c", -1)},
	append(named(letters(100)...), of("b", -1)), append(named(letters(100)...), of("b", 1000000000)),
	// an empty one
	{{}}, {{}, of("a", 5)}, {of("a", 5), {}},
}

// P15.1
func TestCheck(t *testing.T) {
	for _, l := range mayBe {
		if !pick.Check(l) {
			t.Errorf("Check(%.200v) = false", l)
		}
	}
	for _, l := range mayNot {
		if pick.Check(l) {
			t.Errorf("Check(%.200v) = true", l)
		}
	}
}

// P15.1: picks may be just if each may be, and each two that stand beside one another rise.
func TestCheckOfAllShortLists(t *testing.T) {
	names := []string{"", "a", "a-", "a0", "b", "α", "A"}
	places := []int{-1, 0, 5, 999999999, 1000000000}
	var some []api.Pick
	var good []bool
	for i, name := range names {
		for j, place := range places {
			some = append(some, of(name, place))
			good = append(good, i >= 1 && i <= 5 && j >= 1 && j <= 3)
		}
	}
	for i, x := range some {
		if got := pick.Check(list(x)); got != good[i] {
			t.Fatalf("Check(%v) = %v", x, got)
		}
		for j, y := range some {
			two := good[i] && good[j] && i/len(places) < j/len(places)
			if got := pick.Check(list(x, y)); got != two {
				t.Fatalf("Check(%v, %v) = %v", x, y, got)
			}
			for k, z := range some {
				want := two && good[k] && j/len(places) < k/len(places)
				if got := pick.Check(list(x, y, z)); got != want {
					t.Fatalf("Check(%v, %v, %v) = %v", x, y, z, got)
				}
			}
		}
	}
}

// P15.1: one pick that may not be, at each place of many.
func TestCheckOfOneThatMayNotBe(t *testing.T) {
	was := named(letters(30)...)
	for i := range was {
		for _, p := range []api.Pick{{}, of("", 5), of("A", 5), of(was[i].Name, -1), of(was[i].Name, 1000000000), of(was[i].Name+"_", 5), of(was[i].Name+"abcdefghi", 5)} {
			l := slices.Clone(was)
			l[i] = p
			if pick.Check(l) {
				t.Errorf("Check of %v at %d = true", p, i)
			}
		}
		l := slices.Clone(was)
		l[i].Ver = i
		if l = slices.Insert(l, i, l[i]); pick.Check(l) {
			t.Errorf("Check of %v twice = true", l[i])
		}
		if l = slices.Delete(l, i, i+2); !pick.Check(l) {
			t.Errorf("Check without the pick %d = false", i)
		}
	}
}

// P15.1: of any lists, two by two.
func TestSame(t *testing.T) {
	l := append(slices.Clone(mayBe), mayNot...)
	l = append(l, named("a", "c"), list(of("b", 2001000), of("a", 1000000)), list(of("a", 1000000), of("b", 2001001)), list(of("a", 1000001), of("b", 2001000)), list(of("a", 1000000), of("c", 2001000)), list(of("a", 1000000), of("b", 2001000), of("b", 2001000)), list(of("a", 1000000), of("b", 2001000), of("c", 0)), list(of("a", 2001000), of("b", 1000000)), list(of("\xff", 5)), list(of("\xfe", 5)), list(of("\ufffd", 5)), make([]api.Pick, 2), make([]api.Pick, 3))
	for i, a := range l {
		for j, b := range l {
			want := alike(a, b)
			if got := pick.Same(a, b); got != want || i == j && !got {
				t.Errorf("Same(%.200v, %.200v) = %v", a, b, got)
			}
		}
	}
	// Memory is not what is asked for; an empty list is none.
	for _, a := range l {
		if b := deep(a); !pick.Same(a, b) || !pick.Same(b, a) {
			t.Errorf("Same(%.200v) of one that is made anew = false", a)
		}
	}
	if !pick.Same(nil, []api.Pick{}) || !pick.Same([]api.Pick{}, nil) || pick.Same(nil, make([]api.Pick, 1)) {
		t.Error("an empty list is not alike to none alone")
	}
}

// P15.1: one field that is another one, at each place of many.
func TestSameButOne(t *testing.T) {
	was := named(letters(30)...)
	for i := range was {
		for _, p := range []api.Pick{of(was[i].Name, was[i].Ver+1), of(was[i].Name+"a", was[i].Ver), {}} {
			l := slices.Clone(was)
			l[i] = p
			if pick.Same(l, was) || pick.Same(was, l) {
				t.Errorf("with %v at %d they are alike", p, i)
			}
		}
		if pick.Same(was[:i], was) || pick.Same(was, was[:i]) || !pick.Same(was[:i], slices.Clone(was)[:i]) {
			t.Errorf("of the first %d it is not told whether they are alike", i)
		}
	}
}

// The limits that the chapter and DOC.md name.
func TestLimits(t *testing.T) {
	if pick.MaxText != 4000 || api.Top != 1000000000 || api.MaxName != 12 || api.MaxBytes != 24 {
		t.Error("a limit is another one")
	}
}
