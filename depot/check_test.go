package depot_test

import (
	"slices"
	"strings"
	"testing"

	"comprador/api"
	"comprador/depot"
	"comprador/label"
)

// entry is an entry.
func entry(name, body string) api.Entry {
	return api.Entry{Name: name, Body: []byte(body)}
}

// entries are entries of names, and bodies, two by two.
func entries(l ...string) []api.Entry {
	var d []api.Entry
	for i := 0; i < len(l); i += 2 {
		d = append(d, entry(l[i], l[i+1]))
	}
	return d
}

// rising are names that may be, and rise, more than a depot may have: some are the beginnings of others.
func rising() []string {
	return []string{
		"a", "a-", "a--", "a-1", "a0", "a9", "aa", "aaaaaaaaaaaa", "ab", "az", "aα", "b", "b-", "b1", "bb", "c",
		"m-0123456789", "n", "z", "zz", "α", "α-1", "α1", "αa", "αα", "αβγδεζηθικλμ", "β", "ρ", "ω", "ωω",
	}
}

// noNames are names that may not be.
func noNames() []string {
	return []string{
		"", " ", "A", "1", "-", "1a", "-a", "a b", "a ", " a", "a_", "a.b", "a\x00", "\x00", "aB", "Ω", "ΰ", "ϊ", "aϊ", "é", "\xce", "a\xce", "\xff", "a\xff", "a\xef\xbf\xbd",
		"abcdefghijklm", "αβγδεζηθικλμν", "αβγδεζηθικλμa", strings.Repeat("a", 24), strings.Repeat("a", 25), strings.Repeat("ω", 13), strings.Repeat("a", 9000),
	}
}

// first is a depot of the first n of the rising names, whose bodies are their manifests without releases, but some that are broken.
func first(n int) []api.Entry {
	var d []api.Entry
	for i, name := range rising()[:n] {
		if i%5 == 3 {
			d = append(d, entry(name, "\x80"+name))
			continue
		}
		d = append(d, entry(name, bytesOf(bare(name))))
	}
	return d
}

// clone is a depot that shares no list with that one.
func clone(l []api.Entry) []api.Entry {
	d := slices.Clone(l)
	for i := range d {
		d[i].Body = slices.Clone(d[i].Body)
	}
	return d
}

// checks fails, if a depot may be, and should not, or the other way round.
func checks(t *testing.T, l []api.Entry, want bool) {
	t.Helper()
	if got := depot.Check(l); got != want {
		t.Errorf("Check(%.80q), of %d entries, = %v", l, len(l), got)
	}
}

// The names that the tests lean on.
func TestNames(t *testing.T) {
	l := rising()
	for i, name := range l {
		if !label.Fit(name) || i > 0 && name <= l[i-1] {
			t.Errorf("%q may not be, or does not rise", name)
		}
	}
	for _, name := range noNames() {
		if label.Fit(name) {
			t.Errorf("%q may be", name)
		}
	}
}

// P12.1, of depots that may be: whatever their bodies are.
func TestCheck(t *testing.T) {
	most := strings.Repeat("\xff", 8192)
	for _, l := range [][]api.Entry{
		nil, {}, entries("a", ""), {{Name: "a"}}, entries("a", "\x01a\x00"), entries("a", "no manifest"), entries("a", "\x01b\x00"),
		entries("a", strings.Repeat("x", 8191)), entries("a", most), entries("ω", ""), entries("αβγδεζηθικλμ", most), entries("abcdefghijkl", ""),
		entries("a", "", "b", ""), entries("a", "same", "b", "same"), entries("a", most, "b", most, "c", most), entries("a", "", "aa", ""), entries("a", "", "a-", ""),
		entries("a-", "", "a0", ""), entries("a9", "", "aa", ""), entries("z", "", "α", ""), entries("zzzzzzzzzzzz", "", "α", ""), entries("az", "", "aα", "", "b", ""),
	} {
		checks(t, l, true)
	}
	all := first(24)
	for i := range all {
		all[i].Body = []byte(most)
	}
	checks(t, all, true)
}

// P12.1: how many entries there may be.
func TestCheckOfEachSize(t *testing.T) {
	for n := range len(rising()) + 1 {
		checks(t, first(n), n <= 24)
	}
	var many []api.Entry
	for i := range 26 * 26 {
		many = append(many, entry(string([]byte{'a' + byte(i/26), 'a' + byte(i%26)}), ""))
	}
	checks(t, many, false)
	checks(t, many[:25], false)
	checks(t, many[:24], true)
	checks(t, many[26*26-24:], true)
}

// P12.1: names that may not be, at each place, and wherever they stand to the others.
func TestCheckOfNamesThatMayNotBe(t *testing.T) {
	for _, name := range noNames() {
		checks(t, entries(name, ""), false)
		checks(t, entries(name, bytesOf(bare(name))), false)
		for _, n := range []int{1, 2, 7, 23} {
			for at := range n + 1 {
				checks(t, slices.Insert(first(n), at, entry(name, "")), false)
			}
			for at := range n {
				l := first(n)
				l[at].Name = name
				checks(t, l, false)
			}
		}
		// where it would stand, if it might be
		at, _ := slices.BinarySearch(rising()[:23], name)
		checks(t, slices.Insert(first(23), at, entry(name, "")), false)
	}
}

// P12.1: names that do not rise, at each place.
func TestCheckOfNamesThatDoNotRise(t *testing.T) {
	for _, l := range [][]api.Entry{
		entries("a", "", "a", ""), entries("a", "x", "a", "y"), entries("b", "", "a", ""), entries("aa", "", "a", ""), entries("α", "", "z", ""), entries("a0", "", "a-", ""), entries("aa", "", "a9", ""),
		entries("a", "", "c", "", "b", ""), entries("b", "", "a", "", "c", ""), entries("a", "", "b", "", "a", ""), entries("b", "", "c", "", "a", ""), entries("a", "", "b", "", "b", ""), entries("a", "", "a", "", "b", ""),
	} {
		checks(t, l, false)
	}
	for _, n := range []int{2, 3, 10, 24} {
		for i := range n {
			for j := range i {
				l := first(n)
				l[i], l[j] = l[j], l[i]
				checks(t, l, false)
				l = first(n)
				l[i].Name = l[j].Name
				checks(t, l, false)
			}
			if n < 24 {
				checks(t, slices.Insert(first(n), i, first(n)[i]), false)
			}
		}
	}
}

// P12.1: bodies that are too long, at each place.
func TestCheckOfLongBodies(t *testing.T) {
	for _, n := range []int{1, 2, 10, 24} {
		for at := range n {
			for _, size := range []int{8191, 8192, 8193, 9000, 1 << 16} {
				l := first(n)
				l[at].Body = make([]byte, size)
				checks(t, l, size <= 8192)
			}
		}
	}
}

// P12.1: all lists of some names, up to four, by another way.
func TestCheckOfAllLists(t *testing.T) {
	some := []string{"a", "a-", "b", "α", "", "A", "abcdefghijklm"}
	may := 0
	var each func(l []api.Entry, names []string)
	each = func(l []api.Entry, names []string) {
		sorted := slices.Compact(slices.Sorted(slices.Values(names)))
		want := slices.Equal(names, sorted) && !slices.ContainsFunc(names, func(name string) bool { return slices.Index(some, name) >= 4 })
		checks(t, l, want)
		if want {
			may++
		}
		if len(l) == 4 {
			return
		}
		for _, name := range some {
			each(append(slices.Clone(l), entry(name, "")), append(slices.Clone(names), name))
		}
	}
	each(nil, nil)
	if may != 16 {
		t.Errorf("%d depots may be", may)
	}
}

// The limits that the chapter and DOC.md name.
func TestLimits(t *testing.T) {
	if api.MaxEntries != 24 || api.MaxBody != 8192 || api.MaxName != 12 {
		t.Errorf("the limits are %d, %d, %d", api.MaxEntries, api.MaxBody, api.MaxName)
	}
}
