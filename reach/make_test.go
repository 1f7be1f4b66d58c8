package reach_test

import (
	"slices"
	"strconv"
	"strings"
	"testing"

	"comprador/api"
	"comprador/index"
	"comprador/label"
	"comprador/reach"
)

// spans are those that begin and end at numbers, two by two.
func spans(ends ...int) []api.Span {
	var l []api.Span
	for i := 0; i < len(ends); i += 2 {
		l = append(l, api.Span{Lo: ends[i], Hi: ends[i+1]})
	}
	return l
}

// of is a need.
func of(name string, ends ...int) api.Need {
	return api.Need{Name: name, In: spans(ends...)}
}

// named are needs of some names, with sets of many forms.
func named(names ...string) []api.Need {
	var l []api.Need
	for i, name := range names {
		l = append(l, of(name, [][]int{{0, 1000000000}, {}, {5, 6}, {0, 1, 2, 3, 4, 5, 6, 7, 8, 9, 999999999, 1000000000}}[i%4]...))
	}
	return l
}

// asks are needs of the names in a text.
func asks(names string) []api.Need {
	return named(strings.Fields(names)...)
}

// rel is a release.
func rel(ver int, needs ...api.Need) api.Release {
	return api.Release{Ver: ver, Needs: needs}
}

// pack is a manifest.
func pack(name string, l ...api.Release) api.Manifest {
	return api.Manifest{Name: name, Releases: l}
}

// num is a number's bytes, put without the package that puts them.
func num(n int) string {
	s := string([]byte{byte(n % 128)})
	for n /= 128; n > 0; n /= 128 {
		s = string([]byte{byte(128 + n%128)}) + s
	}
	return s
}

// text is a text's bytes.
func text(s string) string {
	return num(len(s)) + s
}

// bytesOf is a manifest's bytes, whether it may be or not, as long as no number is below 0.
func bytesOf(m api.Manifest) string {
	s := text(m.Name) + num(len(m.Releases))
	for _, r := range m.Releases {
		s += num(r.Ver) + num(len(r.Needs))
		for _, n := range r.Needs {
			s += text(n.Name) + num(len(n.In))
			for _, in := range n.In {
				s += num(in.Lo) + num(in.Hi-in.Lo)
			}
		}
	}
	return s
}

// read is a manifest of a text: "a" has no releases, "a:" has one, "a:b c;d" has one that needs b and c, and one that needs d.
func read(s string) api.Manifest {
	name, rest, ok := strings.Cut(s, ":")
	m := pack(name)
	if !ok {
		return m
	}
	for i, needs := range strings.Split(rest, ";") {
		m.Releases = append(m.Releases, rel(i*1000, asks(needs)...))
	}
	return m
}

// entry is the entry of a text: of a manifest's text, that manifest; "a=b:c" is a with the manifest of "b:c"; "a!:c" is a with the bytes of "a:c", and one more.
func entry(s string) api.Entry {
	head, _, _ := strings.Cut(s, ":")
	if name, ok := strings.CutSuffix(head, "!"); ok {
		body := bytesOf(read(strings.Replace(s, "!", "", 1))) + "\x00"
		return api.Entry{Name: name, Body: []byte(body)}
	}
	if name, _, ok := strings.Cut(head, "="); ok {
		return api.Entry{Name: name, Body: []byte(bytesOf(read(s[len(name)+1:])))}
	}
	return api.Entry{Name: head, Body: []byte(bytesOf(read(s)))}
}

// entries are those of texts.
func entries(texts ...string) []api.Entry {
	var l []api.Entry
	for _, s := range texts {
		l = append(l, entry(s))
	}
	return l
}

// knows is an index of entries: it fails, if one of them is not put.
func knows(t *testing.T, l ...api.Entry) *index.Index {
	t.Helper()
	x := index.New()
	for _, e := range l {
		puts(t, x, e)
	}
	return x
}

// puts fails, if an entry is not put.
func puts(t *testing.T, x *index.Index, e api.Entry) {
	t.Helper()
	if got := x.Put(e.Name, e.Body); got != api.OK {
		t.Fatalf("Put(%q, %.60q) = %d", e.Name, e.Body, got)
	}
}

// tells fails, if other names may be needed, or are missing.
func tells(t *testing.T, x *index.Index, root []api.Need, names, missing []string) {
	t.Helper()
	if got := reach.Names(x, root); !slices.Equal(got, names) {
		t.Fatalf("of %v the names are %q, not %q", root, got, names)
	}
	if got := reach.Missing(x, root); !slices.Equal(got, missing) {
		t.Fatalf("of %v there are missing %q, not %q", root, got, missing)
	}
	if got := reach.Whole(x, root); got != (len(missing) == 0) {
		t.Fatalf("of %v, of which %q are missing, Whole = %v", root, missing, got)
	}
}

// model is what may be needed, found another way: over and over, all names that are known are gone through until nothing comes of it.
func model(x *index.Index, root []api.Need) (names, missing []string) {
	in := map[string]bool{}
	for _, n := range root {
		in[n.Name] = true
	}
	for was := -1; was != len(in); {
		was = len(in)
		for _, name := range x.Names() {
			m, ok := x.Get(name)
			if !ok || !in[name] {
				continue
			}
			for _, r := range m.Releases {
				for _, n := range r.Needs {
					in[n.Name] = true
				}
			}
		}
	}
	for name := range in {
		names = append(names, name)
		if !slices.Contains(x.Names(), name) {
			missing = append(missing, name)
		}
	}
	slices.Sort(names)
	slices.Sort(missing)
	return names, missing
}

// subset are those of some names whose bits are set.
func subset(names []string, bits int) []string {
	var l []string
	for i, name := range names {
		if bits>>i&1 == 1 {
			l = append(l, name)
		}
	}
	return l
}

// letters are n names that may be, and rise, of four letters each.
func letters(n int) []string {
	var l []string
	for i := range n {
		l = append(l, string([]byte{byte('a' + i/17576%26), byte('a' + i/676%26), byte('a' + i/26%26), byte('a' + i%26)}))
	}
	return l
}

// drawer draws plain numbers.
func drawer(seed uint32) func(n int) int {
	return func(n int) int {
		seed = seed*1664525 + 1013904223
		return int(seed>>8) % n
	}
}

// some are up to n of the names, drawn, rising.
func some(draw func(int) int, names []string, n int) []string {
	var l []string
	for range draw(n + 1) {
		l = append(l, names[draw(len(names))])
	}
	slices.Sort(l)
	return slices.Compact(l)
}

// drawn is a drawn entry of a name: one in six is broken.
func drawn(draw func(int) int, name string, names []string) api.Entry {
	m := pack(name)
	for i := range draw(4) {
		m.Releases = append(m.Releases, rel(i, named(some(draw, names, 2)...)...))
	}
	body := bytesOf(m)
	if draw(6) == 0 {
		body += "\x00"
	}
	return api.Entry{Name: name, Body: []byte(body)}
}

// The names, and the manifests, that the tests lean on.
func TestWhatTestsLeanOn(t *testing.T) {
	l := letters(20000)
	for i, name := range l {
		if !label.Fit(name) || i > 0 && name <= l[i-1] {
			t.Fatalf("the name %d, %q, may not be, or does not rise", i, name)
		}
	}
	x := knows(t, entries("a", "b:", "c:a b;d", "d!", "e!:a", "f=g:a", "g=a")...)
	for i, want := range []int{0, 1, 2, -1, -1, -1, -1} {
		m, ok := x.Get(string(rune('a' + i)))
		if ok != (want >= 0) || len(m.Releases) != max(want, 0) {
			t.Errorf("the name %s has %v, %v", strconv.Itoa(i), m, ok)
		}
	}
}
