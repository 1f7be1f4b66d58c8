package plain_test

import (
	"maps"
	"slices"
	"strconv"
	"strings"
	"testing"
	"unicode"

	"comprador/api"
	"comprador/index"
	"comprador/label"
	"comprador/plain"
	"comprador/wire"
)

// top is behind the last place of a version.
const top = 1000000000

// much is fuel that is never spent.
const much = 1 << 40

// of is a need of the versions between some ends, two by two.
func of(name string, ends ...int) api.Need {
	n := api.Need{Name: name}
	for i := 0; i < len(ends); i += 2 {
		n.In = append(n.In, api.Span{Lo: ends[i], Hi: ends[i+1]})
	}
	return n
}

// rel is a release.
func rel(ver int, needs ...api.Need) api.Release {
	return api.Release{Ver: ver, Needs: needs}
}

// pack is a manifest.
func pack(name string, l ...api.Release) api.Manifest {
	return api.Manifest{Name: name, Releases: l}
}

// at is a pick.
func at(name string, ver int) api.Pick {
	return api.Pick{Name: name, Ver: ver}
}

// parts are a name and the versions behind it, each of one digit.
func parts(s string) (string, []int) {
	name := strings.TrimRightFunc(s, unicode.IsDigit)
	var vers []int
	for _, d := range s[len(name):] {
		vers = append(vers, int(d-'0'))
	}
	return name, vers
}

// toNeed is the need of a text: "a" of any version, "a13" of 1 and 3, "a!" of none.
func toNeed(s string) api.Need {
	name, vers := parts(strings.TrimSuffix(s, "!"))
	n := api.Need{Name: name}
	for _, ver := range vers {
		if last := len(n.In) - 1; last >= 0 && n.In[last].Hi == ver {
			n.In[last].Hi++
			continue
		}
		n.In = append(n.In, api.Span{Lo: ver, Hi: ver + 1})
	}
	if s == name {
		n.In = []api.Span{{Lo: 0, Hi: top}}
	}
	return n
}

// toNeeds are the needs of a text, with blanks between.
func toNeeds(s string) []api.Need {
	var l []api.Need
	for _, piece := range strings.Fields(s) {
		l = append(l, toNeed(piece))
	}
	return l
}

// toPicks are the picks of a text: "a1 b2".
func toPicks(s string) []api.Pick {
	var l []api.Pick
	for _, piece := range strings.Fields(s) {
		name, vers := parts(piece)
		l = append(l, at(name, vers[0]))
	}
	return l
}

// toEntry is the entry of a text: "a" has no releases, "a 1 2(b1,c)" has 1, which needs nothing, and 2; "a! 1" is a with such bytes, and one more; "a=b 1" is a with the bytes of "b 1".
func toEntry(t *testing.T, s string) api.Entry {
	t.Helper()
	words := strings.Fields(s)
	head, spoilt := strings.CutSuffix(words[0], "!")
	name, other, is := strings.Cut(head, "=")
	m := pack(head)
	if is {
		m.Name = other
	}
	for _, word := range words[1:] {
		digit, needs, _ := strings.Cut(strings.TrimSuffix(word, ")"), "(")
		m.Releases = append(m.Releases, rel(int(digit[0]-'0'), toNeeds(strings.ReplaceAll(needs, ",", " "))...))
	}
	e := api.Entry{Name: name, Body: body(t, m)}
	if spoilt {
		e.Body = append(e.Body, 0)
	}
	return e
}

// body is a manifest's bytes: it fails, if it may not be.
func body(t *testing.T, m api.Manifest) []byte {
	t.Helper()
	b := wire.Put(m)
	if len(b) == 0 {
		t.Fatalf("the manifest %v may not be", m)
	}
	return b
}

// toIndex is an index of entries' texts, with semicolons between.
func toIndex(t *testing.T, s string) *index.Index {
	t.Helper()
	x := index.New()
	for _, piece := range strings.Split(s, ";") {
		if strings.TrimSpace(piece) != "" {
			puts(t, x, toEntry(t, piece))
		}
	}
	return x
}

// puts fails, if an entry is not put.
func puts(t *testing.T, x *index.Index, e api.Entry) {
	t.Helper()
	if got := x.Put(e.Name, e.Body); got != api.OK {
		t.Fatalf("Put(%q, %.60q) = %d", e.Name, e.Body, got)
	}
}

// knows is an index of manifests: it fails, if one of them may not be.
func knows(t *testing.T, l ...api.Manifest) *index.Index {
	t.Helper()
	x := index.New()
	for _, m := range l {
		puts(t, x, api.Entry{Name: m.Name, Body: body(t, m)})
	}
	return x
}

// told is what a search tells.
type told struct {
	picks []api.Pick
	kind  int
	name  string
}

// toTold is what a text says: "found a1 b2", "lacks a", "broken a", "nothing", "spent".
func toTold(s string) told {
	word, rest, _ := strings.Cut(s, " ")
	switch word {
	case "found":
		return told{kind: api.Found, picks: toPicks(rest)}
	case "lacks":
		return told{kind: api.Lacks, name: rest}
	case "broken":
		return told{kind: api.Broken, name: rest}
	case "nothing":
		return told{kind: api.Nothing}
	}
	return told{kind: api.Spent}
}

// isTold fails, if a search tells something else.
func isTold(t *testing.T, x *index.Index, root []api.Need, fuel int, want told) {
	t.Helper()
	l, kind, name := plain.Solve(x, root, fuel)
	if !slices.Equal(l, want.picks) || kind != want.kind || name != want.name {
		t.Fatalf("asked %v, by fuel %d, told are %v, %d, %q, not %v", root, fuel, l, kind, name, want)
	}
}

// model is a search, done another way: it goes on from maps, each of which is made anew.
type model struct {
	has      map[string]bool               // the names that are known
	releases map[string]map[int][]api.Need // of each name that is known and whole
	root     []api.Need
	tried    int // how many versions were
	fuel     int
}

// modelOf is a model of an index and needs.
func modelOf(x *index.Index, root []api.Need) *model {
	m := &model{has: map[string]bool{}, releases: map[string]map[int][]api.Need{}, root: root, fuel: much}
	for _, name := range x.Names() {
		m.has[name] = true
		if known, ok := x.Get(name); ok {
			m.releases[name] = map[int][]api.Need{}
			for _, r := range known.Releases {
				m.releases[name][r.Ver] = r.Needs
			}
		}
	}
	return m
}

// needs are all those of root and of what is picked.
func (m *model) needs(vers map[string]int) []api.Need {
	l := slices.Clone(m.root)
	for name, ver := range vers {
		l = append(l, m.releases[name][ver]...)
	}
	return l
}

// fits tells whether a version of a name is in what all needs ask of it.
func (m *model) fits(vers map[string]int, name string, ver int) bool {
	return !slices.ContainsFunc(m.needs(vers), func(n api.Need) bool {
		return n.Name == name && !slices.ContainsFunc(n.In, func(s api.Span) bool { return s.Lo <= ver && ver < s.Hi })
	})
}

// next is the least name that is needed and not picked.
func (m *model) next(vers map[string]int) (string, bool) {
	var l []string
	for _, n := range m.needs(vers) {
		if _, ok := vers[n.Name]; !ok {
			l = append(l, n.Name)
		}
	}
	if len(l) == 0 {
		return "", false
	}
	return slices.Min(l), true
}

// search is what the search tells.
func (m *model) search() told {
	for _, n := range m.root {
		if !m.has[n.Name] {
			return told{kind: api.Lacks, name: n.Name}
		}
	}
	for _, n := range m.root {
		if m.releases[n.Name] == nil {
			return told{kind: api.Broken, name: n.Name}
		}
	}
	m.tried = 0
	return m.from(map[string]int{})
}

// from is what the search tells that goes on from some picks; a dead end is Nothing.
func (m *model) from(vers map[string]int) told {
	for name, ver := range vers {
		if !m.fits(vers, name, ver) {
			return told{kind: api.Nothing}
		}
	}
	name, ok := m.next(vers)
	switch {
	case !ok:
		return told{kind: api.Found, picks: listed(vers)}
	case !m.has[name]:
		return told{kind: api.Lacks, name: name}
	}
	for _, ver := range slices.Backward(slices.Sorted(maps.Keys(m.releases[name]))) {
		if !m.fits(vers, name, ver) {
			continue
		}
		if m.tried >= m.fuel {
			return told{kind: api.Spent}
		}
		m.tried++
		more := maps.Clone(vers)
		more[name] = ver
		if end := m.from(more); end.kind != api.Nothing {
			return end
		}
	}
	return told{kind: api.Nothing}
}

// listed are picks of a map, by their names.
func listed(vers map[string]int) []api.Pick {
	var l []api.Pick
	for _, name := range slices.Sorted(maps.Keys(vers)) {
		l = append(l, at(name, vers[name]))
	}
	return l
}

// asModel fails, if something else is told than of a model, by much fuel, by just as much as there must be, and by less: it tells what the model does, and how many versions were tried.
func asModel(t *testing.T, x *index.Index, root []api.Need) (told, int) {
	t.Helper()
	m := modelOf(x, root)
	want := m.search()
	isTold(t, x, root, much, want)
	isTold(t, x, root, m.tried, want)
	if m.tried > 0 {
		isTold(t, x, root, m.tried-1, toTold("spent"))
		isTold(t, x, root, m.tried/2, toTold("spent"))
	}
	return want, m.tried
}

// letters are n names that may be, and rise, of four letters each.
func letters(n int) []string {
	var l []string
	for i := range n {
		l = append(l, string([]byte{byte('a' + i/17576%26), byte('a' + i/676%26), byte('a' + i/26%26), byte('a' + i%26)}))
	}
	return l
}

// drawer draws plain numbers.
func drawer(seed uint32) func(n int) int {
	return func(n int) int {
		seed = seed*1664525 + 1013904223
		return int(seed>>8) % n
	}
}

// drawnNeeds are up to n needs, drawn, of some names, in versions of 1 to 3.
func drawnNeeds(draw func(int) int, names []string, n int) []api.Need {
	var l []string
	for range draw(n + 1) {
		l = append(l, names[draw(len(names))])
	}
	slices.Sort(l)
	var needs []api.Need
	for _, name := range slices.Compact(l) {
		needs = append(needs, toNeed(name+[]string{"", "", "1", "2", "3", "12", "13", "23", "12", "23", "12", "!"}[draw(12)]))
	}
	return needs
}

// drawn is a drawn entry of a name: one in odds is broken.
func drawn(t *testing.T, draw func(int) int, name string, names []string, odds int) api.Entry {
	t.Helper()
	m := pack(name)
	for ver := range 4 {
		if draw(4) > 0 {
			m.Releases = append(m.Releases, rel(ver, drawnNeeds(draw, names, 3)...))
		}
	}
	e := api.Entry{Name: name, Body: body(t, m)}
	if draw(odds) == 0 {
		e.Body = append(e.Body, 0)
	}
	return e
}

// drawnIndex knows some of the names: each but one in odds, of which one in odds is broken.
func drawnIndex(t *testing.T, draw func(int) int, names []string, odds int) *index.Index {
	t.Helper()
	x := index.New()
	for _, name := range names {
		if draw(odds) > 0 {
			puts(t, x, drawn(t, draw, name, names, odds))
		}
	}
	return x
}

// The names, needs, manifests and texts that the tests lean on.
func TestWhatTestsLeanOn(t *testing.T) {
	l := letters(20000)
	for i, name := range l {
		if !label.Fit(name) || i > 0 && name <= l[i-1] {
			t.Fatalf("the name %d, %q, may not be, or does not rise", i, name)
		}
	}
	needs := toNeeds("a a-b1 c13 d123 e!")
	want := []api.Need{of("a", 0, top), of("a-b", 1, 2), of("c", 1, 2, 3, 4), of("d", 1, 4), of("e")}
	for i, n := range needs {
		if n.Name != want[i].Name || !slices.Equal(n.In, want[i].In) {
			t.Errorf("the need %d is %v, not %v", i, n, want[i])
		}
	}
	x := toIndex(t, "a; b 1; c 1 2(a,b13) 3; d! 1; e=a 1; f=g")
	for i, want := range []int{0, 1, 3, -1, -1, -1, -1} {
		m, ok := x.Get(string(rune('a' + i)))
		if ok != (want >= 0) || len(m.Releases) != max(want, 0) {
			t.Errorf("the name %q has %v, %v", m.Name, m, ok)
		}
	}
	if m, _ := x.Get("c"); m.Releases[1].Ver != 2 || len(m.Releases[1].Needs) != 2 || len(m.Releases[1].Needs[1].In) != 2 {
		t.Errorf("c is %v", m)
	}
	for i, s := range []string{"found a1 b2", "found", "lacks a", "broken b", "nothing", "spent"} {
		e := toTold(s)
		if got := strconv.Itoa(len(e.picks)) + strconv.Itoa(e.kind) + e.name; got != []string{"21", "01", "03a", "04b", "02", "05"}[i] {
			t.Errorf("%q is %v", s, e)
		}
	}
}
