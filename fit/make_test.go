package fit_test

import (
	"slices"
	"strings"
	"testing"
	"unicode"

	"comprador/api"
	"comprador/fit"
	"comprador/index"
	"comprador/label"
	"comprador/wire"
)

// top is behind the last place of a version.
const top = 1000000000

// of is a need of the versions between some ends, two by two.
func of(name string, ends ...int) api.Need {
	n := api.Need{Name: name}
	for i := 0; i < len(ends); i += 2 {
		n.In = append(n.In, api.Span{Lo: ends[i], Hi: ends[i+1]})
	}
	return n
}

// rel is a release.
func rel(ver int, needs ...api.Need) api.Release {
	return api.Release{Ver: ver, Needs: needs}
}

// pack is a manifest.
func pack(name string, l ...api.Release) api.Manifest {
	return api.Manifest{Name: name, Releases: l}
}

// at is a pick.
func at(name string, ver int) api.Pick {
	return api.Pick{Name: name, Ver: ver}
}

// parts are a name and the versions behind it, each of one digit.
func parts(s string) (string, []int) {
	name := strings.TrimRightFunc(s, unicode.IsDigit)
	var vers []int
	for _, d := range s[len(name):] {
		vers = append(vers, int(d-'0'))
	}
	return name, vers
}

// toNeed is the need of a text: "a" of any version, "a13" of 1 and 3, "a!" of none.
func toNeed(s string) api.Need {
	name, vers := parts(strings.TrimSuffix(s, "!"))
	n := api.Need{Name: name}
	for _, ver := range vers {
		if last := len(n.In) - 1; last >= 0 && n.In[last].Hi == ver {
			n.In[last].Hi++
			continue
		}
		n.In = append(n.In, api.Span{Lo: ver, Hi: ver + 1})
	}
	if s == name {
		n.In = []api.Span{{Lo: 0, Hi: top}}
	}
	return n
}

// toNeeds are the needs of a text, with blanks between.
func toNeeds(s string) []api.Need {
	var l []api.Need
	for _, piece := range strings.Fields(s) {
		l = append(l, toNeed(piece))
	}
	return l
}

// toPicks are the picks of a text: "a1 b2".
func toPicks(s string) []api.Pick {
	var l []api.Pick
	for _, piece := range strings.Fields(s) {
		name, vers := parts(piece)
		l = append(l, at(name, vers[0]))
	}
	return l
}

// toEntry is the entry of a text: "a" has no releases, "a 1 2(b1,c)" has 1, which needs nothing, and 2; "a! 1" is a with such bytes, and one more; "a=b 1" is a with the bytes of "b 1".
func toEntry(t *testing.T, s string) api.Entry {
	t.Helper()
	words := strings.Fields(s)
	head, spoilt := strings.CutSuffix(words[0], "!")
	name, other, is := strings.Cut(head, "=")
	m := pack(head)
	if is {
		m.Name = other
	}
	for _, word := range words[1:] {
		digit, needs, _ := strings.Cut(strings.TrimSuffix(word, ")"), "(")
		m.Releases = append(m.Releases, rel(int(digit[0]-'0'), toNeeds(strings.ReplaceAll(needs, ",", " "))...))
	}
	e := api.Entry{Name: name, Body: body(t, m)}
	if spoilt {
		e.Body = append(e.Body, 0)
	}
	return e
}

// body is a manifest's bytes: it fails, if it may not be.
func body(t *testing.T, m api.Manifest) []byte {
	t.Helper()
	b := wire.Put(m)
	if len(b) == 0 {
		t.Fatalf("the manifest %v may not be", m)
	}
	return b
}

// toIndex is an index of entries' texts, with semicolons between.
func toIndex(t *testing.T, s string) *index.Index {
	t.Helper()
	x := index.New()
	for _, piece := range strings.Split(s, ";") {
		if strings.TrimSpace(piece) != "" {
			puts(t, x, toEntry(t, piece))
		}
	}
	return x
}

// puts fails, if an entry is not put.
func puts(t *testing.T, x *index.Index, e api.Entry) {
	t.Helper()
	if got := x.Put(e.Name, e.Body); got != api.OK {
		t.Fatalf("Put(%q, %.60q) = %d", e.Name, e.Body, got)
	}
}

// knows is an index of manifests: it fails, if one of them may not be.
func knows(t *testing.T, l ...api.Manifest) *index.Index {
	t.Helper()
	x := index.New()
	for _, m := range l {
		puts(t, x, api.Entry{Name: m.Name, Body: body(t, m)})
	}
	return x
}

// isWrong fails, if something else is wrong.
func isWrong(t *testing.T, x *index.Index, root []api.Need, l []api.Pick, number int, name string) {
	t.Helper()
	if n, s := fit.Wrong(x, root, l); n != number || s != name {
		t.Fatalf("of %.300v, asked %.300v, wrong are %d, %q, not %d, %q", l, root, n, s, number, name)
	}
	if got := fit.Solution(x, root, l); got != (number == 0) {
		t.Fatalf("of %.300v, asked %.300v, wrong are %d, %q, and Solution = %v", l, root, number, name, got)
	}
}

// isNeeded fails, if other names are needed.
func isNeeded(t *testing.T, x *index.Index, root []api.Need, l []api.Pick, want []string) {
	t.Helper()
	if got := fit.Needed(x, root, l); !slices.Equal(got, want) {
		t.Fatalf("of %.300v, asked %.300v, %.300q are needed, not %.300q", l, root, got, want)
	}
}

// model is what is wrong, and what is needed, found another way, of picks that may be.
type model struct {
	vers     map[string]int
	releases map[string]map[int][]api.Need // of each name that is known and whole
	root     []api.Need
}

// modelOf is a model of an index, needs and picks.
func modelOf(x *index.Index, root []api.Need, l []api.Pick) model {
	m := model{vers: map[string]int{}, releases: map[string]map[int][]api.Need{}, root: root}
	for _, p := range l {
		m.vers[p.Name] = p.Ver
	}
	for _, name := range x.Names() {
		if known, ok := x.Get(name); ok {
			m.releases[name] = map[int][]api.Need{}
			for _, r := range known.Releases {
				m.releases[name][r.Ver] = r.Needs
			}
		}
	}
	return m
}

// needed are the names that are needed: over and over, all picks are gone through until nothing comes of it.
func (m model) needed() []string {
	in := map[string]bool{}
	for _, n := range m.root {
		in[n.Name] = true
	}
	for was := -1; was != len(in); {
		was = len(in)
		for name, ver := range m.vers {
			for _, n := range m.releases[name][ver] {
				if in[name] {
					in[n.Name] = true
				}
			}
		}
	}
	var l []string
	for name := range in {
		l = append(l, name)
	}
	slices.Sort(l)
	return l
}

// met tells whether a need is.
func (m model) met(n api.Need) bool {
	ver, ok := m.vers[n.Name]
	return ok && slices.ContainsFunc(n.In, func(s api.Span) bool { return s.Lo <= ver && ver < s.Hi })
}

// wrong is what is: all names are found of which something is not so, and the least one of the first that has some is told.
func (m model) wrong() (int, string) {
	var names [6][]string
	for _, n := range m.root {
		if !m.met(n) {
			names[2] = append(names[2], n.Name)
		}
	}
	needed := m.needed()
	for name, ver := range m.vers {
		if _, ok := m.releases[name][ver]; !ok {
			names[3] = append(names[3], name)
		}
		for _, n := range m.releases[name][ver] {
			if !m.met(n) {
				names[4] = append(names[4], name)
			}
		}
		if !slices.Contains(needed, name) {
			names[5] = append(names[5], name)
		}
	}
	for number, l := range names {
		if len(l) > 0 {
			return number, slices.Min(l)
		}
	}
	return 0, ""
}

// asModel fails, if something else is told than of a model: it tells what is wrong.
func asModel(t *testing.T, x *index.Index, root []api.Need, l []api.Pick) int {
	t.Helper()
	m := modelOf(x, root, l)
	number, name := m.wrong()
	isWrong(t, x, root, l, number, name)
	isNeeded(t, x, root, l, m.needed())
	return number
}

// letters are n names that may be, and rise, of four letters each.
func letters(n int) []string {
	var l []string
	for i := range n {
		l = append(l, string([]byte{byte('a' + i/17576%26), byte('a' + i/676%26), byte('a' + i/26%26), byte('a' + i%26)}))
	}
	return l
}

// drawer draws plain numbers.
func drawer(seed uint32) func(n int) int {
	return func(n int) int {
		seed = seed*1664525 + 1013904223
		return int(seed>>8) % n
	}
}

// drawnNeeds are up to n needs, drawn, of some names, in versions of 1 to 3.
func drawnNeeds(draw func(int) int, names []string, n int) []api.Need {
	var l []string
	for range draw(n + 1) {
		l = append(l, names[draw(len(names))])
	}
	slices.Sort(l)
	var needs []api.Need
	for _, name := range slices.Compact(l) {
		needs = append(needs, toNeed(name+[]string{"", "", "", "1", "2", "3", "12", "13", "23", "!"}[draw(10)]))
	}
	return needs
}

// drawn is a drawn entry of a name: one in eight is broken.
func drawn(t *testing.T, draw func(int) int, name string, names []string) api.Entry {
	t.Helper()
	m := pack(name)
	for ver := range 4 {
		if draw(4) > 0 {
			m.Releases = append(m.Releases, rel(ver, drawnNeeds(draw, names, 2)...))
		}
	}
	e := api.Entry{Name: name, Body: body(t, m)}
	if draw(8) == 0 {
		e.Body = append(e.Body, 0)
	}
	return e
}

// The names, needs and manifests that the tests lean on.
func TestWhatTestsLeanOn(t *testing.T) {
	l := letters(20000)
	for i, name := range l {
		if !label.Fit(name) || i > 0 && name <= l[i-1] {
			t.Fatalf("the name %d, %q, may not be, or does not rise", i, name)
		}
	}
	needs := toNeeds("a a-b1 c13 d123 e!")
	want := []api.Need{of("a", 0, top), of("a-b", 1, 2), of("c", 1, 2, 3, 4), of("d", 1, 4), of("e")}
	for i, n := range needs {
		if n.Name != want[i].Name || !slices.Equal(n.In, want[i].In) {
			t.Errorf("the need %d is %v, not %v", i, n, want[i])
		}
	}
	x := toIndex(t, "a; b 1; c 1 2(a,b13) 3; d! 1; e=a 1; f=g")
	for i, want := range []int{0, 1, 3, -1, -1, -1, -1} {
		m, ok := x.Get(string(rune('a' + i)))
		if ok != (want >= 0) || len(m.Releases) != max(want, 0) {
			t.Errorf("the name %q has %v, %v", m.Name, m, ok)
		}
	}
	if m, _ := x.Get("c"); m.Releases[1].Ver != 2 || len(m.Releases[1].Needs) != 2 || len(m.Releases[1].Needs[1].In) != 2 {
		t.Errorf("c is %v", m)
	}
}
