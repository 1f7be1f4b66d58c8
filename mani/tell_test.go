package mani_test

import (
	"math"
	"math/bits"
	"slices"
	"strings"
	"testing"

	"comprador/api"
	"comprador/mani"
	"comprador/span"
)

// P9.2
func TestGet(t *testing.T) {
	m := pack("a", rel(0, named("b")...), rel(1000000), rel(2000000, of("b", 5, 9), of("c")), rel(999999999, of("α", 1, 3, 7, 8)))
	for _, c := range []struct {
		ver  int
		want api.Release
		ok   bool
	}{
		{0, rel(0, named("b")...), true}, {1000000, rel(1000000), true}, {2000000, rel(2000000, of("b", 5, 9), of("c")), true}, {999999999, rel(999999999, of("α", 1, 3, 7, 8)), true},
		{1, rel(0), false}, {-1, rel(0), false}, {999999, rel(0), false}, {1000001, rel(0), false}, {1500000, rel(0), false}, {2000001, rel(0), false}, {999999998, rel(0), false}, {1000000000, rel(0), false}, {math.MinInt, rel(0), false}, {math.MaxInt, rel(0), false},
	} {
		if got, ok := mani.Get(m, c.ver); !alikeReleases(got, c.want) || ok != c.ok {
			t.Errorf("Get(%v, %d) = %v, %v", m, c.ver, got, ok)
		}
	}
	if got, ok := mani.Get(bare("a"), 0); !alikeReleases(got, rel(0)) || ok {
		t.Errorf("Get of no releases = %v, %v", got, ok)
	}
	for _, m := range mayBe() {
		for _, r := range m.Releases {
			if got, ok := mani.Get(m, r.Ver); !alikeReleases(got, r) || !ok {
				t.Errorf("Get(%v, %d) = %v, %v", m, r.Ver, got, ok)
			}
			for _, beside := range []int{r.Ver - 1, r.Ver + 1} {
				has := slices.ContainsFunc(m.Releases, func(r api.Release) bool { return r.Ver == beside })
				if got, ok := mani.Get(m, beside); ok != has || !ok && !alikeReleases(got, rel(0)) {
					t.Errorf("Get(%v, %d) = %v, %v", m, beside, got, ok)
				}
			}
		}
	}
}

// P9.2
func TestVers(t *testing.T) {
	for _, c := range []struct {
		vers []int
		want []api.Span
	}{
		{nil, nil}, {[]int{0}, spans(0, 1)}, {[]int{5}, spans(5, 6)}, {[]int{999999999}, spans(999999999, 1000000000)},
		{[]int{1000000, 2000000}, spans(1000000, 1000001, 2000000, 2000001)},
		// versions that stand beside one another are one span
		{[]int{0, 1}, spans(0, 2)}, {[]int{0, 1, 2, 3, 4, 5, 6, 7}, spans(0, 8)}, {[]int{0, 2}, spans(0, 1, 2, 3)}, {[]int{0, 1, 3, 4, 6}, spans(0, 2, 3, 5, 6, 7)}, {[]int{999, 1000}, spans(999, 1001)}, {[]int{999999998, 999999999}, spans(999999998, 1000000000)},
		// they may be more than a need's spans
		{[]int{0, 2, 4, 6, 8, 10, 12, 14}, spans(0, 1, 2, 3, 4, 5, 6, 7, 8, 9, 10, 11, 12, 13, 14, 15)},
	} {
		if got := mani.Vers(bare("a", c.vers...)); !slices.Equal(got, c.want) {
			t.Errorf("Vers of %v = %v, not %v", c.vers, got, c.want)
		}
	}
}

// P9.2
func TestNames(t *testing.T) {
	for _, c := range []struct {
		m    api.Manifest
		want []string
	}{
		{bare("a"), nil}, {bare("a", 1, 2), nil}, {pack("a", rel(1, named("b")...)), []string{"b"}}, {pack("a", rel(1), rel(2, named("b")...), rel(3)), []string{"b"}},
		{pack("a", rel(1, named("b", "c")...)), []string{"b", "c"}}, {pack("a", rel(1, named("b")...), rel(2, named("c")...)), []string{"b", "c"}}, {pack("a", rel(1, named("c")...), rel(2, named("b")...)), []string{"b", "c"}},
		// each once
		{pack("a", rel(1, named("b")...), rel(2, named("b")...)), []string{"b"}}, {pack("a", rel(1, named("b", "d")...), rel(2, named("c", "d")...), rel(3, named("b", "c")...)), []string{"b", "c", "d"}},
		// its own one, too, and such as are needed in no version
		{pack("a", rel(1, named("a")...)), []string{"a"}}, {pack("b", rel(1, named("c")...), rel(2, of("a"), of("b"))), []string{"a", "b", "c"}},
		// byte by byte: a hyphen ahead of digits, these ahead of letters, these ahead of Greek ones
		{pack("a", rel(1, named("α")...), rel(2, named("z")...), rel(3, named("aa")...), rel(4, named("a0")...), rel(5, named("a-")...), rel(6, named("a")...)), []string{"a", "a-", "a0", "aa", "z", "α"}},
	} {
		if got := mani.Names(c.m); !slices.Equal(got, c.want) {
			t.Errorf("Names(%v) = %v, not %v", c.m, got, c.want)
		}
	}
	// as many as there may be, in another order each time
	for turn := range 8 {
		m := api.Manifest{Name: "a"}
		var want []string
		for i := range 8 {
			var l []string
			for j := range 6 {
				l = append(l, string(rune('a'+(i+turn)*3%8))+strings.Repeat(string(rune('a'+j)), 11))
			}
			m.Releases = append(m.Releases, rel(i, named(l...)...))
			want = append(want, l...)
		}
		slices.Sort(want)
		if got := mani.Names(m); len(want) != 48 || !slices.Equal(got, want) {
			t.Errorf("Names(%v) = %v", m, got)
		}
	}
}

// P9.2: of all manifests whose releases need some of four names.
func TestNamesOfAll(t *testing.T) {
	names := []string{"a", "a-1", "z", "β"}
	some := func(mask int) []string {
		var l []string
		for i, name := range names {
			if mask>>i&1 == 1 {
				l = append(l, name)
			}
		}
		return l
	}
	for x := range 16 {
		for y := range 16 {
			for z := range 16 {
				m := pack("a", rel(1, named(some(x)...)...), rel(2, named(some(y)...)...), rel(3, named(some(z)...)...))
				if got := mani.Names(m); !slices.Equal(got, some(x|y|z)) {
					t.Fatalf("Names(%v) = %v", m, got)
				}
			}
		}
	}
}

// P9.2, the chapter's examples beside others.
func TestDown(t *testing.T) {
	two := bare("a", 1000000, 2000000)
	for _, c := range []struct {
		m    api.Manifest
		in   []api.Span
		want []int
	}{
		{two, spans(0, 2000000), []int{1000000}}, {two, all, []int{2000000, 1000000}}, {two, nil, nil}, {two, []api.Span{}, nil},
		{two, spans(0, 2000001), []int{2000000, 1000000}}, {two, spans(0, 1000000), nil}, {two, spans(0, 1000001), []int{1000000}}, {two, spans(1000000, 2000000), []int{1000000}},
		{two, spans(1000001, 2000000), nil}, {two, spans(1000001, 2000001), []int{2000000}}, {two, spans(2000000, 2000001), []int{2000000}}, {two, spans(2000001, 1000000000), nil},
		{two, spans(0, 1000000, 1000001, 2000000, 2000001, 1000000000), nil}, {two, spans(0, 1, 1000000, 1000001, 1999999, 2000001), []int{2000000, 1000000}},
		{bare("a"), all, nil}, {bare("a"), nil, nil}, {bare("a", 0), spans(0, 1), []int{0}}, {bare("a", 0), spans(1, 1000000000), nil}, {bare("a", 999999999), all, []int{999999999}},
		{bare("a", 999999999), spans(0, 999999999), nil}, {bare("a", 0, 999999999), all, []int{999999999, 0}}, {bare("a", 0, 999999999), spans(0, 5), []int{0}},
		{bare("a", 0, 1, 2, 3, 4, 5, 6, 7), all, []int{7, 6, 5, 4, 3, 2, 1, 0}}, {bare("a", 0, 1, 2, 3, 4, 5, 6, 7), spans(0, 1, 2, 3, 4, 5, 6, 7), []int{6, 4, 2, 0}}, {bare("a", 0, 1, 2, 3, 4, 5, 6, 7), manySpans(4), []int{7, 5, 3, 1}},
	} {
		if got := mani.Down(c.m, c.in); !slices.Equal(got, c.want) {
			t.Errorf("Down(%v, %v) = %v, not %v", c.m, c.in, got, c.want)
		}
		most, ok := mani.Newest(c.m, c.in)
		switch {
		case len(c.want) == 0 && (most != 0 || ok):
			t.Errorf("Newest(%v, %v) = %d, %v, of none", c.m, c.in, most, ok)
		case len(c.want) > 0 && (most != c.want[0] || !ok):
			t.Errorf("Newest(%v, %v) = %d, %v, not %d", c.m, c.in, most, ok, c.want[0])
		}
	}
}

// cells are places that stand beside one another, and apart, up to both ends.
var cells = []int{0, 1, 2, 1000, 1001, 1000000, 999999998, 999999999}

// masked is a manifest with the versions of some cells, and masks its set.
func masked(mask int) (api.Manifest, []api.Span) {
	m := api.Manifest{Name: "a"}
	var set []api.Span
	for i, place := range cells {
		if mask>>i&1 == 1 {
			m.Releases = append(m.Releases, rel(place))
			if last := len(set) - 1; last >= 0 && set[last].Hi == place {
				set[last].Hi++
			} else {
				set = append(set, api.Span{Lo: place, Hi: place + 1})
			}
		}
	}
	return m, set
}

// P9.2, P9.3: all manifests with versions of eight cells, and all sets of such.
func TestOfAllCells(t *testing.T) {
	for x := range 1 << len(cells) {
		m, vers := masked(x)
		if got := mani.Vers(m); !slices.Equal(got, vers) || !span.Check(got) || !mani.Check(m) {
			t.Fatalf("Vers(%v) = %v, not %v", m, got, vers)
		}
		for y := range 1 << len(cells) {
			_, in := masked(y)
			var want []int
			for i := len(cells) - 1; i >= 0; i-- {
				if x&y>>i&1 == 1 {
					want = append(want, cells[i])
				}
			}
			down := mani.Down(m, in)
			if !slices.Equal(down, want) {
				t.Fatalf("Down(%v, %v) = %v, not %v", m, in, down, want)
			}
			meet := span.Meet(mani.Vers(m), in)
			if len(down) != span.Count(meet) || len(down) != bits.OnesCount(uint(x&y)) {
				t.Fatalf("Down(%v, %v) has %d versions, %v has %d", m, in, len(down), meet, span.Count(meet))
			}
			most, ok := mani.Newest(m, in)
			if also, is := span.Most(meet); most != also || ok != is {
				t.Fatalf("Newest(%v, %v) = %d, %v; the Most of %v is %d, %v", m, in, most, ok, meet, also, is)
			}
		}
	}
}

// P9.2, P9.3: sets with edges at, ahead of and behind each version.
func TestOfAllEdges(t *testing.T) {
	edges := []int{0, 1, 4, 5, 6, 7, 8, 9, 1000000000}
	m := bare("a", 5, 6, 8, 999999999)
	for _, lo := range edges {
		for _, hi := range edges {
			for _, set := range [][]api.Span{span.Of(api.Span{Lo: lo, Hi: hi}), span.Not(span.Of(api.Span{Lo: lo, Hi: hi}))} {
				var want []int
				for _, v := range []int{999999999, 8, 6, 5} {
					if slices.ContainsFunc(set, func(s api.Span) bool { return s.Lo <= v && v < s.Hi }) {
						want = append(want, v)
					}
				}
				down := mani.Down(m, set)
				most, ok := mani.Newest(m, set)
				if !slices.Equal(down, want) || ok != (len(want) > 0) || ok && most != want[0] || !ok && most != 0 {
					t.Errorf("Down(%v, %v) = %v, Newest %d, %v, not %v", m, set, down, most, ok, want)
				}
				if meet := span.Meet(mani.Vers(m), set); span.Count(meet) != len(down) {
					t.Errorf("Down(%v, %v) = %v, of %v", m, set, down, meet)
				}
			}
		}
	}
}

// The limits that the chapter and DOC.md name.
func TestLimits(t *testing.T) {
	if got := []int{api.MaxReleases, api.MaxNeeds, api.MaxSpans, api.Top}; !slices.Equal(got, []int{8, 6, 6, 1000000000}) {
		t.Errorf("the limits are %v", got)
	}
}
