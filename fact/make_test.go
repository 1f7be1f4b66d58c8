package fact_test

import (
	"fmt"
	"slices"
	"strings"
	"testing"
	"unicode"

	"comprador/api"
	"comprador/index"
	"comprador/wire"
)

// top is behind the last place of a version.
const top = 1000000000

// of is a need of the versions between some ends, two by two.
func of(name string, ends ...int) api.Need {
	n := api.Need{Name: name}
	for i := 0; i < len(ends); i += 2 {
		n.In = append(n.In, api.Span{Lo: ends[i], Hi: ends[i+1]})
	}
	return n
}

// rel is a release.
func rel(ver int, needs ...api.Need) api.Release {
	return api.Release{Ver: ver, Needs: needs}
}

// pack is a manifest.
func pack(name string, l ...api.Release) api.Manifest {
	return api.Manifest{Name: name, Releases: l}
}

// in is the term that a package is chosen in the versions between some ends.
func in(name string, ends ...int) api.Term {
	return api.Term{Name: name, In: of(name, ends...).In}
}

// or is a term, or that its package is not chosen.
func or(t api.Term) api.Term {
	t.None = true
	return t
}

// list is a list of terms.
func list(l ...api.Term) []api.Term { return l }

// parts are a name and the versions behind it, each of one digit.
func parts(s string) (string, []int) {
	name := strings.TrimRightFunc(s, unicode.IsDigit)
	var vers []int
	for _, d := range s[len(name):] {
		vers = append(vers, int(d-'0'))
	}
	return name, vers
}

// toNeed is the need of a text: "a" of any version, "a13" of 1 and 3, "a!" of none.
func toNeed(s string) api.Need {
	name, vers := parts(strings.TrimSuffix(s, "!"))
	n := api.Need{Name: name}
	for _, ver := range vers {
		if last := len(n.In) - 1; last >= 0 && n.In[last].Hi == ver {
			n.In[last].Hi++
			continue
		}
		n.In = append(n.In, api.Span{Lo: ver, Hi: ver + 1})
	}
	if s == name {
		n.In = []api.Span{{Lo: 0, Hi: top}}
	}
	return n
}

// toNeeds are the needs of a text, with blanks between.
func toNeeds(s string) []api.Need {
	var l []api.Need
	for _, piece := range strings.Fields(s) {
		l = append(l, toNeed(piece))
	}
	return l
}

// toTerm is the term of a text: "a13" chosen in 1 or 3, "a" in any version, "a!" in none, "a13?" in 1 or 3, or not chosen; "-" ahead of a text turns it round: "-a13" is not chosen in 1 or 3.
func toTerm(s string) api.Term {
	s, not := strings.CutPrefix(s, "-")
	s, none := strings.CutSuffix(s, "?")
	n := toNeed(s)
	if !not {
		return api.Term{Name: n.Name, In: n.In, None: none}
	}
	t := api.Term{Name: n.Name, None: !none}
	end := 0
	for _, x := range append(n.In, api.Span{Lo: top}) {
		if x.Lo > end {
			t.In = append(t.In, api.Span{Lo: end, Hi: x.Lo})
		}
		end = x.Hi
	}
	return t
}

// toFact is the fact of terms' texts, with blanks between.
func toFact(s string) []api.Term {
	var l []api.Term
	for _, piece := range strings.Fields(s) {
		l = append(l, toTerm(piece))
	}
	return l
}

// toStep is the step of a text: "asked a", "released a", "needed a1 b".
func toStep(s string) api.Step {
	words := strings.Fields(s)
	switch words[0] {
	case "asked":
		return api.Step{Kind: api.Asked, Name: words[1]}
	case "released":
		return api.Step{Kind: api.Released, Name: words[1]}
	}
	name, vers := parts(words[1])
	return api.Step{Kind: api.Needed, Name: name, Ver: vers[0], To: words[2]}
}

// toFacts are the facts and the steps of a text, each as "-a13: asked a", with semicolons between.
func toFacts(s string) ([][]api.Term, []api.Step) {
	var facts [][]api.Term
	var steps []api.Step
	for _, piece := range strings.Split(s, ";") {
		if fact, step, ok := strings.Cut(piece, ":"); ok {
			facts = append(facts, toFact(fact))
			steps = append(steps, toStep(step))
		}
	}
	return facts, steps
}

// toEntry is the entry of a text: "a" has no releases, "a 1 2(b1,c)" has 1, which needs nothing, and 2; "a! 1" is a with such bytes, and one more; "a=b 1" is a with the bytes of "b 1".
func toEntry(t *testing.T, s string) api.Entry {
	t.Helper()
	words := strings.Fields(s)
	head, spoilt := strings.CutSuffix(words[0], "!")
	name, other, is := strings.Cut(head, "=")
	m := pack(head)
	if is {
		m.Name = other
	}
	for _, word := range words[1:] {
		digit, needs, _ := strings.Cut(strings.TrimSuffix(word, ")"), "(")
		m.Releases = append(m.Releases, rel(int(digit[0]-'0'), toNeeds(strings.ReplaceAll(needs, ",", " "))...))
	}
	e := api.Entry{Name: name, Body: body(t, m)}
	if spoilt {
		e.Body = append(e.Body, 0)
	}
	return e
}

// body is a manifest's bytes: it fails, if it may not be.
func body(t *testing.T, m api.Manifest) []byte {
	t.Helper()
	b := wire.Put(m)
	if len(b) == 0 {
		t.Fatalf("the manifest %v may not be", m)
	}
	return b
}

// toIndex is an index of entries' texts, with semicolons between.
func toIndex(t *testing.T, s string) *index.Index {
	t.Helper()
	x := index.New()
	for _, piece := range strings.Split(s, ";") {
		if strings.TrimSpace(piece) != "" {
			puts(t, x, toEntry(t, piece))
		}
	}
	return x
}

// puts fails, if an entry is not put.
func puts(t *testing.T, x *index.Index, e api.Entry) {
	t.Helper()
	if got := x.Put(e.Name, e.Body); got != api.OK {
		t.Fatalf("Put(%q, %.60q) = %d", e.Name, e.Body, got)
	}
}

// knows is an index of manifests: it fails, if one of them may not be.
func knows(t *testing.T, l ...api.Manifest) *index.Index {
	t.Helper()
	x := index.New()
	for _, m := range l {
		puts(t, x, api.Entry{Name: m.Name, Body: body(t, m)})
	}
	return x
}

// same tells whether facts are alike.
func same(a, b []api.Term) bool {
	return slices.EqualFunc(a, b, func(x, y api.Term) bool {
		return x.Name == y.Name && x.None == y.None && slices.Equal(x.In, y.In)
	})
}

// is fails, if a call told another fact than it should, or another truth.
func is(t *testing.T, call string, got []api.Term, ok bool, want []api.Term, is bool) {
	t.Helper()
	if !same(got, want) || ok != is {
		t.Fatalf("%s = %s, %v, not %s, %v", call, brief(got), ok, brief(want), is)
	}
	if len(got) == 0 && got != nil {
		t.Fatalf("%s told an empty list that is not none", call)
	}
}

// are fails, if a call told other facts than it should, or other steps.
func are(t *testing.T, call string, facts [][]api.Term, steps []api.Step, want [][]api.Term, by []api.Step) {
	t.Helper()
	if !slices.EqualFunc(facts, want, same) {
		t.Fatalf("%s told %s, not %s", call, brief(facts), brief(want))
	}
	if !slices.Equal(steps, by) {
		t.Fatalf("%s told the steps %s, not %s", call, brief(steps), brief(by))
	}
	if len(facts) == 0 && (facts != nil || steps != nil) {
		t.Fatalf("%s told empty lists that are not none", call)
	}
}

// brief is what is printed of something, which may be long.
func brief(x any) string {
	return fmt.Sprintf("%.300s", fmt.Sprint(x))
}

// full is a manifest that has as much of all as there may be: of each release's needs the first one is of the package itself, in its own version or another one.
func full() api.Manifest {
	m := pack("a")
	for i := range api.MaxReleases {
		r := rel(100*i, of("a", 200*(i/2), 200*(i/2)+1))
		for j := 1; j < api.MaxNeeds; j++ {
			n := of("a" + strings.Repeat("z", j))
			for k := range api.MaxSpans {
				n.In = append(n.In, api.Span{Lo: i + 10*j + 100*k + 1, Hi: i + 10*j + 100*k + 2})
			}
			r.Needs = append(r.Needs, n)
		}
		m.Releases = append(m.Releases, r)
	}
	return m
}

// drawer draws plain numbers.
func drawer(seed uint32) func(n int) int {
	return func(n int) int {
		seed = seed*1664525 + 1013904223
		return int(seed>>8) % n
	}
}

// drawnNeeds are up to n needs, drawn, of some names, in versions of 1 to 3.
func drawnNeeds(draw func(int) int, names []string, n int) []api.Need {
	var l []string
	for range draw(n + 1) {
		l = append(l, names[draw(len(names))])
	}
	slices.Sort(l)
	var needs []api.Need
	for _, name := range slices.Compact(l) {
		needs = append(needs, toNeed(name+[]string{"", "", "", "1", "2", "3", "12", "13", "23", "!"}[draw(10)]))
	}
	return needs
}

// drawnIndex knows some of the names, in versions of 0 to 3: one in eight is not known, and one in eight of the others is broken.
func drawnIndex(t *testing.T, draw func(int) int, names []string) *index.Index {
	t.Helper()
	x := index.New()
	for _, name := range names {
		if draw(8) == 0 {
			continue
		}
		m := pack(name)
		for ver := range 4 {
			if draw(4) > 0 {
				m.Releases = append(m.Releases, rel(ver, drawnNeeds(draw, names, 2)...))
			}
		}
		e := api.Entry{Name: name, Body: body(t, m)}
		if draw(8) == 0 {
			e.Body = append(e.Body, 0)
		}
		puts(t, x, e)
	}
	return x
}

// The texts that the tests lean on.
func TestWhatTestsLeanOn(t *testing.T) {
	needs := toNeeds("a b1 c13 d123 e!")
	want := []api.Need{of("a", 0, top), of("b", 1, 2), of("c", 1, 2, 3, 4), of("d", 1, 4), of("e")}
	for i, n := range needs {
		if n.Name != want[i].Name || !slices.Equal(n.In, want[i].In) {
			t.Errorf("the need %d is %v, not %v", i, n, want[i])
		}
	}
	got := toFact("a a! a? a!? a1 a1? a13 -a -a! -a? -a!? -a1 -a1? -a13 -a12? -a0 -a02?")
	terms := list(
		in("a", 0, top), in("a"), or(in("a", 0, top)), or(in("a")), in("a", 1, 2), or(in("a", 1, 2)), in("a", 1, 2, 3, 4),
		or(in("a")), or(in("a", 0, top)), in("a"), in("a", 0, top), or(in("a", 0, 1, 2, top)), in("a", 0, 1, 2, top), or(in("a", 0, 1, 2, 3, 4, top)), in("a", 0, 1, 3, top), or(in("a", 1, top)), in("a", 1, 2, 3, top),
	)
	for i := range terms {
		if !same(got[i:i+1], terms[i:i+1]) {
			t.Errorf("the term %d is %v, not %v", i, got[i], terms[i])
		}
	}
	facts, steps := toFacts("-a1: asked a; : asked c; a: released a; a1 -b: needed a1 b")
	are(t, "the text", facts, steps,
		[][]api.Term{list(or(in("a", 0, 1, 2, top))), nil, list(in("a", 0, top)), list(in("a", 1, 2), or(in("b")))},
		[]api.Step{{Kind: 1, Name: "a"}, {Kind: 1, Name: "c"}, {Kind: 2, Name: "a"}, {Kind: 3, Name: "a", Ver: 1, To: "b"}})
	x := toIndex(t, "a; b 1; c 1 2(a,b13) 3; d! 1; e=a 1; f=g")
	for i, want := range []int{0, 1, 3, -1, -1, -1, -1} {
		m, ok := x.Get(string(rune('a' + i)))
		if ok != (want >= 0) || len(m.Releases) != max(want, 0) {
			t.Errorf("the name %q has %v, %v", m.Name, m, ok)
		}
	}
	if m, ok := knows(t, full()).Get("a"); !ok || len(m.Releases) != 8 || len(m.Releases[7].Needs) != 6 || len(m.Releases[7].Needs[5].In) != 6 {
		t.Errorf("the full manifest is %s, %v", brief(m), ok)
	}
}
