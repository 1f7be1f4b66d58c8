package index_test

import (
	"slices"
	"strings"
	"testing"

	"comprador/api"
	"comprador/index"
	"comprador/label"
)

// spans are those that begin and end at numbers, two by two.
func spans(ends ...int) []api.Span {
	var l []api.Span
	for i := 0; i < len(ends); i += 2 {
		l = append(l, api.Span{Lo: ends[i], Hi: ends[i+1]})
	}
	return l
}

// of is a need.
func of(name string, ends ...int) api.Need {
	return api.Need{Name: name, In: spans(ends...)}
}

// rel is a release.
func rel(ver int, needs ...api.Need) api.Release {
	return api.Release{Ver: ver, Needs: needs}
}

// pack is a manifest.
func pack(name string, l ...api.Release) api.Manifest {
	return api.Manifest{Name: name, Releases: l}
}

// bare is a manifest whose releases need nothing.
func bare(name string, vers ...int) api.Manifest {
	m := api.Manifest{Name: name}
	for _, v := range vers {
		m.Releases = append(m.Releases, rel(v))
	}
	return m
}

// alike tells whether manifests are alike, without the package that tells it.
func alike(a, b api.Manifest) bool {
	return a.Name == b.Name && slices.EqualFunc(a.Releases, b.Releases, func(x, y api.Release) bool {
		return x.Ver == y.Ver && slices.EqualFunc(x.Needs, y.Needs, func(x, y api.Need) bool {
			return x.Name == y.Name && slices.Equal(x.In, y.In)
		})
	})
}

// num is a number's bytes, put without the package that puts them.
func num(n int) string {
	s := string([]byte{byte(n % 128)})
	for n /= 128; n > 0; n /= 128 {
		s = string([]byte{byte(128 + n%128)}) + s
	}
	return s
}

// text is a text's bytes.
func text(s string) string {
	return num(len(s)) + s
}

// bytesOf is a manifest's bytes, whether it may be or not, as long as no number is below 0.
func bytesOf(m api.Manifest) string {
	s := text(m.Name) + num(len(m.Releases))
	for _, r := range m.Releases {
		s += num(r.Ver) + num(len(r.Needs))
		for _, n := range r.Needs {
			s += text(n.Name) + num(len(n.In))
			for _, in := range n.In {
				s += num(in.Lo) + num(in.Hi-in.Lo)
			}
		}
	}
	return s
}

// fullest is a manifest of a name with as many releases, needs, and spans as there may be.
func fullest(name string) api.Manifest {
	six := spans(0, 1, 2, 3, 127, 128, 129, 256, 16384, 32768, 300000000, 999999999)
	m := pack(name)
	for i := range 8 {
		r := rel(999999992 + i)
		for j := range 6 {
			r.Needs = append(r.Needs, api.Need{Name: strings.Repeat("ω", 11) + string(rune(945+j)), In: slices.Clone(six)})
		}
		m.Releases = append(m.Releases, r)
	}
	return m
}

// rising are names that may be, and rise, more than a depot may have: some are the beginnings of others.
func rising() []string {
	return []string{
		"a", "a-", "a--", "a-1", "a0", "a9", "aa", "aaaaaaaaaaaa", "ab", "az", "aα", "b", "b-", "b1", "bb", "c",
		"m-0123456789", "n", "z", "zz", "α", "α-1", "α1", "αa", "αα", "αβγδεζηθικλμ", "β", "ρ", "ω", "ωω",
	}
}

// noNames are names that may not be.
func noNames() []string {
	return []string{
		"", " ", "A", "1", "-", "1a", "-a", "a b", "a ", " a", "a_", "a.b", "a\x00", "\x00", "aB", "Ω", "ΰ", "ϊ", "aϊ", "é", "\xce", "a\xce", "\xff", "a\xff", "a\xef\xbf\xbd",
		"abcdefghijklm", "αβγδεζηθικλμν", "αβγδεζηθικλμa", strings.Repeat("a", 24), strings.Repeat("a", 25), strings.Repeat("ω", 13), strings.Repeat("a", 9000),
	}
}

// manifests are those of the first n of the rising names, of many forms.
func manifests(n int) []api.Manifest {
	var l []api.Manifest
	for i, name := range rising()[:n] {
		switch i % 6 {
		case 0:
			l = append(l, bare(name))
		case 1:
			l = append(l, fullest(name))
		case 2:
			l = append(l, bare(name, 0, 1, 127, 128, 1000000, 2000000, 999999999))
		case 3:
			l = append(l, pack(name, rel(5, of("b")), rel(6, of("a", 0, 1000000000), of("b", 300, 310))))
		case 4:
			l = append(l, pack(name, rel(1000000, of(name, 0, 1000000000))))
		case 5:
			l = append(l, pack(name, rel(7), rel(8, of("c", 1, 2, 3, 4))))
		}
	}
	return l
}

// mayNot are manifests that may not be, of a name that may be, whose bytes are none's.
func mayNot(name string) []api.Manifest {
	return []api.Manifest{
		bare(name, 1000000000), bare(name, 5, 5), bare(name, 6, 5), bare(name, 0, 1, 2, 3, 4, 5, 6, 7, 8),
		pack(name, rel(5, of(""))), pack(name, rel(5, of("B"))), pack(name, rel(5, of("b"), of("b"))), pack(name, rel(5, of("c"), of("b"))), pack(name, rel(5), rel(6, of("b", 0, 0))),
		pack(name, rel(5, of("b", 0, 1000000001))), pack(name, rel(5, of("b", 1, 5, 5, 9))), pack(name, rel(5, of("b", 1, 2, 3, 4, 5, 6, 7, 8, 9, 10, 11, 12, 13, 14))),
		pack(name, rel(5, of("b"), of("c"), of("d"), of("e"), of("f"), of("g"), of("h"))),
	}
}

// entry is an entry.
func entry(name, body string) api.Entry {
	return api.Entry{Name: name, Body: []byte(body)}
}

// entries are entries of names, and bodies, two by two.
func entries(l ...string) []api.Entry {
	var d []api.Entry
	for i := 0; i < len(l); i += 2 {
		d = append(d, entry(l[i], l[i+1]))
	}
	return d
}

// has fails, if something else is known than manifests, by names: of a name that is broken it has no name of its own.
func has(t *testing.T, x *index.Index, want map[string]api.Manifest) {
	t.Helper()
	var names []string
	for name := range want {
		names = append(names, name)
	}
	slices.Sort(names)
	if got := x.Names(); !slices.Equal(got, names) {
		t.Fatalf("the names are %q, not %q", got, names)
	}
	if x.Len() != len(names) {
		t.Fatalf("there are %d, not %d", x.Len(), len(names))
	}
	for _, name := range slices.Concat(names, rising(), noNames()) {
		is, ok := want[name]
		if x.Has(name) != ok {
			t.Fatalf("Has(%q) = %v", name, !ok)
		}
		if ok = ok && is.Name == name; !ok {
			is = bare(name)
		}
		m, also := x.Get(name)
		if !alike(m, is) || also != ok || !ok && m.Releases != nil {
			t.Fatalf("Get(%q) = %v, %v, not %v, %v", name, m, also, is, ok)
		}
	}
}

// knows are all manifests, by their names.
func knows(l ...api.Manifest) map[string]api.Manifest {
	all := map[string]api.Manifest{}
	for _, m := range l {
		all[m.Name] = m
	}
	return all
}

// The names that the tests lean on.
func TestNamesOfTests(t *testing.T) {
	l := rising()
	for i, name := range l {
		if !label.Fit(name) || i > 0 && name <= l[i-1] {
			t.Errorf("%q may not be, or does not rise", name)
		}
	}
	for _, name := range noNames() {
		if label.Fit(name) {
			t.Errorf("%q may be", name)
		}
	}
}

// The limits that the chapter and DOC.md name.
func TestLimits(t *testing.T) {
	if api.MaxBody != 8192 || api.MaxName != 12 || api.OK != 0 || api.ErrArg != 1 || api.ErrThere != 6 {
		t.Errorf("the limits are %d, %d, the errors %d, %d, %d", api.MaxBody, api.MaxName, api.OK, api.ErrArg, api.ErrThere)
	}
}
