package depot_test

import (
	"math"
	"slices"
	"strings"
	"testing"

	"comprador/api"
	"comprador/depot"
	"comprador/mani"
)

// spans are those that begin and end at numbers, two by two.
func spans(ends ...int) []api.Span {
	var l []api.Span
	for i := 0; i < len(ends); i += 2 {
		l = append(l, api.Span{Lo: ends[i], Hi: ends[i+1]})
	}
	return l
}

// of is a need.
func of(name string, ends ...int) api.Need {
	return api.Need{Name: name, In: spans(ends...)}
}

// rel is a release.
func rel(ver int, needs ...api.Need) api.Release {
	return api.Release{Ver: ver, Needs: needs}
}

// pack is a manifest.
func pack(name string, l ...api.Release) api.Manifest {
	return api.Manifest{Name: name, Releases: l}
}

// bare is a manifest whose releases need nothing.
func bare(name string, vers ...int) api.Manifest {
	m := api.Manifest{Name: name}
	for _, v := range vers {
		m.Releases = append(m.Releases, rel(v))
	}
	return m
}

// alike tells whether manifests are alike, without the package that tells it.
func alike(a, b api.Manifest) bool {
	return a.Name == b.Name && slices.EqualFunc(a.Releases, b.Releases, func(x, y api.Release) bool {
		return x.Ver == y.Ver && slices.EqualFunc(x.Needs, y.Needs, func(x, y api.Need) bool {
			return x.Name == y.Name && slices.Equal(x.In, y.In)
		})
	})
}

// num is a number's bytes, put without the package that puts them.
func num(n int) string {
	s := string([]byte{byte(n % 128)})
	for n /= 128; n > 0; n /= 128 {
		s = string([]byte{byte(128 + n%128)}) + s
	}
	return s
}

// text is a text's bytes.
func text(s string) string {
	return num(len(s)) + s
}

// bytesOf is a manifest's bytes, whether it may be or not, as long as no number is below 0.
func bytesOf(m api.Manifest) string {
	s := text(m.Name) + num(len(m.Releases))
	for _, r := range m.Releases {
		s += num(r.Ver) + num(len(r.Needs))
		for _, n := range r.Needs {
			s += text(n.Name) + num(len(n.In))
			for _, in := range n.In {
				s += num(in.Lo) + num(in.Hi-in.Lo)
			}
		}
	}
	return s
}

// fullest is a manifest of a name with as many releases, needs, and spans as there may be.
func fullest(name string) api.Manifest {
	six := spans(0, 1, 2, 3, 127, 128, 129, 256, 16384, 32768, 300000000, 999999999)
	m := pack(name)
	for i := range 8 {
		r := rel(999999992 + i)
		for j := range 6 {
			r.Needs = append(r.Needs, api.Need{Name: strings.Repeat("ω", 11) + string(rune(945+j)), In: slices.Clone(six)})
		}
		m.Releases = append(m.Releases, r)
	}
	return m
}

// manifests are those of the first n of the rising names, of many forms.
func manifests(n int) []api.Manifest {
	var l []api.Manifest
	for i, name := range rising()[:n] {
		switch i % 6 {
		case 0:
			l = append(l, bare(name))
		case 1:
			l = append(l, fullest(name))
		case 2:
			l = append(l, bare(name, 0, 1, 127, 128, 1000000, 2000000, 999999999))
		case 3:
			l = append(l, pack(name, rel(5, of("b")), rel(6, of("a", 0, 1000000000), of("b", 300, 310))))
		case 4:
			l = append(l, pack(name, rel(1000000, of(name, 0, 1000000000))))
		case 5:
			l = append(l, api.Manifest{Name: name, Releases: []api.Release{{Ver: 7, Needs: []api.Need{}}}})
		}
	}
	return l
}

// mayNot are manifests that may not be, of a name that may be, whose bytes are none's.
func mayNot(name string) []api.Manifest {
	return []api.Manifest{
		bare(name, -1), bare(name, 1000000000), bare(name, math.MinInt), bare(name, math.MaxInt), bare(name, 5, 5), bare(name, 6, 5), bare(name, 0, 1, 2, 3, 4, 5, 6, 7, 8),
		pack(name, rel(5, of(""))), pack(name, rel(5, of("B"))), pack(name, rel(5, of("b"), of("b"))), pack(name, rel(5, of("c"), of("b"))), pack(name, rel(5), rel(6, of("b", 0, 0))),
		pack(name, rel(5, of("b", 0, 1000000001))), pack(name, rel(5, of("b", 1, 5, 5, 9))), pack(name, rel(5, of("b", 5, 9, 1, 3))), pack(name, rel(5, of("b", 1, 2, 3, 4, 5, 6, 7, 8, 9, 10, 11, 12, 13, 14))),
		pack(name, rel(5, of("b"), of("c"), of("d"), of("e"), of("f"), of("g"), of("h"))),
	}
}

// isDepot fails, if a depot is not the one of manifests, or the truth beside it is false.
func isDepot(t *testing.T, got []api.Entry, ok bool, want []api.Manifest) {
	t.Helper()
	if !ok || len(got) != len(want) {
		t.Fatalf("of %d manifests there are %d entries, %v", len(want), len(got), ok)
	}
	for i, m := range want {
		if got[i].Name != m.Name || string(got[i].Body) != bytesOf(m) {
			t.Errorf("the entry %d of %d is %q, %q, not of %v", i, len(want), got[i].Name, got[i].Body, m)
		}
	}
}

// isNone fails, if there is a depot of manifests.
func isNone(t *testing.T, l []api.Manifest) {
	t.Helper()
	if got, ok := depot.Of(l); got != nil || ok {
		t.Errorf("Of(%.200v) = %d entries, %v", l, len(got), ok)
	}
}

// P12.1, by hand.
func TestOf(t *testing.T) {
	got, ok := depot.Of([]api.Manifest{bare("a"), bare("b", 5, 300), pack("α", rel(1, of("b", 2, 4)))})
	want := entries("a", "\x01a\x00", "b", "\x01b\x02\x05\x00\x82\x2c\x00", "α", "\x02\xce\xb1\x01\x01\x01\x01b\x01\x02\x02")
	if !ok || !slices.EqualFunc(got, want, func(x, y api.Entry) bool { return x.Name == y.Name && string(x.Body) == string(y.Body) }) {
		t.Errorf("the depot is %q, %v", got, ok)
	}
	for _, l := range [][]api.Manifest{nil, {}} {
		if got, ok := depot.Of(l); got != nil || !ok {
			t.Errorf("Of(none) = %#v, %v", got, ok)
		}
	}
}

// P12.1: up to the bound, and above.
func TestOfEachSize(t *testing.T) {
	for n := range len(rising()) + 1 {
		l := manifests(n)
		if n > 24 {
			isNone(t, l)
			continue
		}
		got, ok := depot.Of(l)
		isDepot(t, got, ok, l)
	}
	isNone(t, slices.Repeat(manifests(24), 100))
}

// P12.1: one that may not be, at each place.
func TestOfManifestsThatMayNotBe(t *testing.T) {
	for _, n := range []int{1, 3, 24} {
		for at := range n {
			for _, m := range mayNot(rising()[at]) {
				if mani.Check(m) {
					t.Fatalf("%v may be", m)
				}
				l := manifests(n)
				l[at] = m
				isNone(t, l)
			}
			for _, name := range noNames() {
				l := manifests(n)
				l[at].Name = name
				isNone(t, l)
				l[at] = bare(name)
				isNone(t, l)
			}
		}
	}
	isNone(t, []api.Manifest{{}})
}

// P12.1: names that do not rise, at each place: the releases do not matter.
func TestOfNamesThatDoNotRise(t *testing.T) {
	for _, l := range [][]api.Manifest{
		{bare("a"), bare("a")}, {bare("a", 1), bare("a", 2)}, {bare("b"), bare("a")}, {bare("α"), bare("z")}, {bare("aa"), bare("a")}, {bare("a0"), bare("a-")},
		{bare("a"), bare("c"), bare("b")}, {bare("b"), bare("a"), bare("c")}, {bare("a"), bare("b"), bare("a")}, {bare("a"), bare("b"), bare("b")}, {bare("a"), bare("a"), bare("b")},
	} {
		isNone(t, l)
	}
	for _, n := range []int{2, 5, 24} {
		for i := range n {
			for j := range i {
				l := manifests(n)
				l[i], l[j] = l[j], l[i]
				isNone(t, l)
				l = manifests(n)
				l[i].Name = l[j].Name
				isNone(t, l)
			}
		}
	}
}

// P12.3: nothing is broken, and each name's manifest is the one that it has, or has no releases.
func TestOfManifestsNothingIsBroken(t *testing.T) {
	for n := range 25 {
		l := manifests(n)
		d, ok := depot.Of(l)
		if !ok || !depot.Check(d) || depot.Broken(d) != nil {
			t.Fatalf("of %d manifests: %v, Check %v, broken are %q", n, ok, depot.Check(d), depot.Broken(d))
		}
		var again []api.Manifest
		for i, name := range rising() {
			want := bare(name)
			if i < n {
				want = l[i]
			}
			got, ok := depot.Manifest(d, name)
			if !alike(got, want) || !ok {
				t.Errorf("of %d manifests that of %q is %v, %v, not %v", n, name, got, ok, want)
			}
			if body := string(depot.Body(d, name)); body != bytesOf(want) {
				t.Errorf("of %d manifests the body of %q is %q", n, name, body)
			}
			if i < n {
				again = append(again, got)
			}
		}
		d, ok = depot.Of(again)
		isDepot(t, d, ok, l)
	}
}

// P12.3: where each subset of some names has a manifest.
func TestOfEachSubset(t *testing.T) {
	names := []string{"a", "a-", "aa", "b", "z", "α", "αα", "ω"}
	for set := range 1 << len(names) {
		var l []api.Manifest
		for i, name := range names {
			if set>>i&1 == 1 {
				l = append(l, bare(name, set, set+i+1))
			}
		}
		d, ok := depot.Of(l)
		isDepot(t, d, ok, l)
		for i, name := range names {
			want := bare(name)
			if set>>i&1 == 1 {
				want = bare(name, set, set+i+1)
			}
			if got, ok := depot.Manifest(d, name); !alike(got, want) || !ok {
				t.Errorf("of the set %d: Manifest(%q) = %v, %v", set, name, got, ok)
			}
		}
		if depot.Broken(d) != nil {
			t.Errorf("of the set %d there are broken: %q", set, depot.Broken(d))
		}
	}
}
