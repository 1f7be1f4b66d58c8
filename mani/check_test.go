package mani_test

import (
	"math"
	"slices"
	"strings"
	"testing"

	"comprador/api"
	"comprador/mani"
)

// spans are those that begin and end at numbers, two by two.
func spans(ends ...int) []api.Span {
	var l []api.Span
	for i := 0; i < len(ends); i += 2 {
		l = append(l, api.Span{Lo: ends[i], Hi: ends[i+1]})
	}
	return l
}

// all is the set of all versions.
var all = spans(0, 1000000000)

// of is a need.
func of(name string, ends ...int) api.Need {
	return api.Need{Name: name, In: spans(ends...)}
}

// named are needs of some names, each in any version.
func named(names ...string) []api.Need {
	var l []api.Need
	for _, name := range names {
		l = append(l, of(name, 0, 1000000000))
	}
	return l
}

// rel is a release.
func rel(ver int, needs ...api.Need) api.Release {
	return api.Release{Ver: ver, Needs: needs}
}

// pack is a manifest.
func pack(name string, l ...api.Release) api.Manifest {
	return api.Manifest{Name: name, Releases: l}
}

// bare is a manifest whose releases need nothing.
func bare(name string, vers ...int) api.Manifest {
	m := api.Manifest{Name: name}
	for _, v := range vers {
		m.Releases = append(m.Releases, rel(v))
	}
	return m
}

// many is a manifest of n releases that need nothing.
func many(n int) api.Manifest {
	var vers []int
	for i := range n {
		vers = append(vers, 1000*i)
	}
	return bare("a", vers...)
}

// manySpans are n spans that stand in order, with places between.
func manySpans(n int) []api.Span {
	var l []api.Span
	for i := range n {
		l = append(l, api.Span{Lo: 2*i + 1, Hi: 2*i + 2})
	}
	return l
}

// alikeNeeds tells whether needs are alike, without the package that tells it.
func alikeNeeds(a, b []api.Need) bool {
	return slices.EqualFunc(a, b, func(x, y api.Need) bool { return x.Name == y.Name && slices.Equal(x.In, y.In) })
}

// alikeReleases tells whether releases are alike.
func alikeReleases(a, b api.Release) bool {
	return a.Ver == b.Ver && alikeNeeds(a.Needs, b.Needs)
}

// alike tells whether manifests are alike, without the package that tells it.
func alike(a, b api.Manifest) bool {
	return a.Name == b.Name && slices.EqualFunc(a.Releases, b.Releases, alikeReleases)
}

// mayBe are manifests that may be.
func mayBe() []api.Manifest {
	widest := func(first string) []api.Need {
		var l []api.Need
		for i := range 6 {
			l = append(l, api.Need{Name: first + string(rune('a'+i)), In: manySpans(6)})
		}
		return l
	}
	fullest := pack("αβγδεζηθικλμ")
	for i := range 8 {
		fullest.Releases = append(fullest.Releases, rel(999999992+i, widest(string(rune(945+i)))...))
	}
	return []api.Manifest{
		bare("a"), {Name: "a", Releases: []api.Release{}}, bare("ω"), bare("a-1"), bare("abcdefghijkl"), bare("αβγδεζηθικλμ"), bare("b"),
		bare("a", 0), bare("a", 1), bare("a", 999999999), bare("a", 0, 999999999), bare("a", 0, 1, 2, 3, 4, 5, 6, 7), bare("a", 1000000, 2000000), bare("b", 1000000, 2000000), bare("a", 1000000, 2000001), bare("a", 999999998, 999999999), many(7), many(8),
		pack("a", api.Release{Ver: 5, Needs: []api.Need{}}), pack("a", rel(5, api.Need{Name: "b", In: []api.Span{}})), pack("a", rel(5, of("b"))), pack("a", rel(5, named("b")...)), pack("a", rel(5, named("a")...)), pack("a", rel(5, of("a", 5, 6))), pack("a", rel(5, of("b", 0, 1))), pack("a", rel(5, of("b", 999999999, 1000000000))),
		pack("a", rel(5, named("b", "c")...)), pack("a", rel(5, named("b")...), rel(6, named("c")...)), pack("a", rel(5, named("c")...), rel(6, named("b")...)), pack("a", rel(5, named("b")...), rel(6, named("b")...)), pack("a", rel(5), rel(6, named("b", "c")...)), pack("a", rel(5, named("b", "c")...), rel(6)), pack("a", rel(5, of("b", 5, 9)), rel(6, of("b", 1, 3, 5, 9)), rel(7, of("b", 5, 8))),
		pack("a", rel(5, named("b", "c", "d", "e", "f", "g")...)), pack("a", rel(5, widest("x")...)), pack("a", rel(0, widest("x")...), rel(1, widest("y")...)), fullest,
		pack("b", rel(1000000), rel(2000000, of("a", 0, 2000000))),
	}
}

// mayNot are manifests that may not be.
func mayNot() []api.Manifest {
	l := []api.Manifest{
		// names
		{}, bare("", 5), bare("1a"), bare("-a"), bare("A"), bare("a b"), bare(" a"), bare("a;"), bare("a.b"), bare("Ω"), bare("\xff"), bare("a\xff"), bare("abcdefghijklm"), bare("αβγδεζηθικλμν"), bare("A", 1, 2), bare(strings.Repeat("a", 4000), 1),
		// versions that are no places
		bare("a", -1), bare("a", -1, 0), bare("a", 1000000000), bare("a", 0, 1000000000), bare("a", 1000000001), bare("a", math.MinInt), bare("a", math.MaxInt), bare("a", 5, math.MaxInt), bare("a", math.MinInt, 5), bare("a", -2, -1), bare("a", 1000000000, 1000000001),
		// versions that do not rise
		bare("a", 0, 0), bare("a", 5, 5), bare("a", 6, 5), bare("a", 1, 2, 2), bare("a", 1, 3, 2), bare("a", 3, 1, 2), bare("a", 1, 2, 1), bare("a", 999999999, 999999998), bare("a", 999999999, 999999999), bare("a", 1, 2, 3, 4, 5, 6, 7, 7), bare("a", 1, 2, 3, 4, 5, 6, 7, 0), pack("a", rel(5, named("b")...), rel(5, named("c")...)),
		// too many releases
		many(9), many(10), many(1000),
	}
	for _, needs := range [][]api.Need{
		named(""), named("B"), named("1"), named("a b"), named("b", "b"), named("c", "b"), named("b", "C"), named("b", "c", "d", "e", "f", "g", "h"),
		{of("b", 0, 0)}, {of("b", 5, 4)}, {of("b", -1, 5)}, {of("b", 0, 1000000001)}, {of("b", 1, 5, 5, 9)}, {of("b", 5, 9, 1, 3)}, {{Name: "b", In: manySpans(7)}}, {of("b"), of("c", 3, 3)},
	} {
		l = append(l, pack("a", rel(5, needs...)), pack("a", rel(5, needs...), rel(6)), pack("a", rel(5), rel(6, needs...)), pack("a", rel(5), rel(6, needs...), rel(7)))
		m := many(8)
		m.Releases[7].Needs = needs
		l = append(l, m)
	}
	return l
}

// manifests are such as may be, and others.
func manifests() []api.Manifest {
	return append(mayBe(), mayNot()...)
}

// P9.1
func TestCheck(t *testing.T) {
	for _, m := range mayBe() {
		if !mani.Check(m) {
			t.Errorf("Check(%v) = false", m)
		}
	}
	for _, m := range mayNot() {
		if mani.Check(m) {
			t.Errorf("Check(%v) = true", m)
		}
	}
}

// P9.1: versions are places, and rise.
func TestCheckOfVersions(t *testing.T) {
	numbers := []int{math.MinInt, math.MinInt + 1, -1000000000, -2, -1, 0, 1, 2, 999, 1000, 999999998, 999999999, 1000000000, 1000000001, 1 << 40, math.MaxInt - 1, math.MaxInt}
	place := func(n int) bool { return n >= 0 && n < 1000000000 }
	for _, a := range numbers {
		if got := mani.Check(bare("a", a)); got != place(a) {
			t.Errorf("Check of the version %d = %v", a, got)
		}
		for _, b := range numbers {
			want := place(a) && place(b) && a < b
			if got := mani.Check(bare("a", a, b)); got != want {
				t.Errorf("Check of the versions %d, %d = %v", a, b, got)
			}
			for _, c := range numbers {
				want := want && place(c) && b < c
				if got := mani.Check(bare("a", a, b, c)); got != want {
					t.Errorf("Check of the versions %d, %d, %d = %v", a, b, c, got)
				}
			}
		}
	}
}

// P9.1: how many releases there may be.
func TestCheckOfManyReleases(t *testing.T) {
	for n := range 20 {
		if got := mani.Check(many(n)); got != (n <= 8) {
			t.Errorf("Check of %d releases = %v", n, got)
		}
	}
}

// P9.1: of any manifests, two by two.
func TestSame(t *testing.T) {
	l := append(manifests(), bare("", 5), bare("c", 1000000, 2000000), bare("a", 2000000, 1000000), pack("a", rel(6, named("b")...)), pack("a", rel(5, named("c")...)), pack("a", rel(5, named("c", "b")...)), pack("a", rel(5, of("b", 1, 3, 5, 9)), rel(6, of("b", 5, 9)), rel(7, of("b", 5, 8))), pack("a", rel(5, of("b", 5, 9)), rel(6, of("b", 1, 3, 5, 9)), rel(7, of("b", 5, 9))))
	same := 0
	for i, a := range l {
		for j, b := range l {
			want := alike(a, b)
			if got := mani.Same(a, b); got != want || i == j && !got {
				t.Errorf("Same(%v, %v) = %v", a, b, got)
			}
			if want && i != j {
				same++
			}
		}
	}
	if same == 0 {
		t.Error("no two manifests that are not one were alike")
	}
}

// P9.1, 0.8: an empty list is none.
func TestSameOfNone(t *testing.T) {
	for _, c := range [][2]api.Manifest{
		{bare("a"), {Name: "a", Releases: []api.Release{}}},
		{bare("a", 5), pack("a", api.Release{Ver: 5, Needs: []api.Need{}})},
		{pack("a", rel(5, of("b"))), pack("a", rel(5, api.Need{Name: "b", In: []api.Span{}}))},
		{{}, {Releases: []api.Release{}}},
	} {
		if !mani.Same(c[0], c[1]) || !mani.Same(c[1], c[0]) {
			t.Errorf("Same(%v, %v) = false", c[0], c[1])
		}
	}
}

// P9.1: of any manifest.
func TestClone(t *testing.T) {
	for _, m := range append(manifests(), bare("\xff\x00", -5, -5, math.MaxInt), pack("", rel(-1, of("", 9, 1), of("", -5, -9)), rel(-1))) {
		got := mani.Clone(m)
		if !alike(got, m) || !mani.Same(got, m) || !mani.Same(m, got) || mani.Check(got) != mani.Check(m) {
			t.Errorf("Clone(%v) = %v", m, got)
		}
	}
}
