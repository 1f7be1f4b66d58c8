package judge_test

import (
	"fmt"
	"slices"
	"strconv"
	"strings"
	"testing"
	"unicode"

	"comprador/api"
	"comprador/index"
	"comprador/wire"
)

// top is behind the last place of a version, most is how many steps a proof may have.
const (
	top  = 1000000000
	most = 1 << 20
)

func asked(name string) api.Step    { return api.Step{Kind: 1, Name: name} }
func released(name string) api.Step { return api.Step{Kind: 2, Name: name} }

func needed(name string, ver int, to string) api.Step {
	return api.Step{Kind: 3, Name: name, Ver: ver, To: to}
}

func joined(name string, a, b int) api.Step {
	return api.Step{Kind: 4, Name: name, A: a, B: b}
}

// parts are a name and the versions behind it, each of one digit.
func parts(s string) (string, []int) {
	name := strings.TrimRightFunc(s, unicode.IsDigit)
	var vers []int
	for _, d := range s[len(name):] {
		vers = append(vers, int(d-'0'))
	}
	return name, vers
}

// toNeed is the need of a text: "a" of any version, "a13" of 1 and 3, "a!" of none.
func toNeed(s string) api.Need {
	name, vers := parts(strings.TrimSuffix(s, "!"))
	n := api.Need{Name: name}
	for _, ver := range vers {
		if last := len(n.In) - 1; last >= 0 && n.In[last].Hi == ver {
			n.In[last].Hi++
			continue
		}
		n.In = append(n.In, api.Span{Lo: ver, Hi: ver + 1})
	}
	if s == name {
		n.In = []api.Span{{Lo: 0, Hi: top}}
	}
	return n
}

// toNeeds are the needs of a text, with blanks between.
func toNeeds(s string) []api.Need {
	var l []api.Need
	for _, piece := range strings.Fields(s) {
		l = append(l, toNeed(piece))
	}
	return l
}

// toTerm is the term of a text: "a13" chosen in 1 or 3, "a" in any version, "a13?" in 1 or 3, or not chosen, "a!?" not chosen; "-" ahead of a text turns it round: "-a13" is not chosen in 1 or 3.
func toTerm(s string) api.Term {
	s, not := strings.CutPrefix(s, "-")
	s, none := strings.CutSuffix(s, "?")
	n := toNeed(s)
	if !not {
		return api.Term{Name: n.Name, In: n.In, None: none}
	}
	t := api.Term{Name: n.Name, None: !none}
	end := 0
	for _, x := range append(n.In, api.Span{Lo: top}) {
		if x.Lo > end {
			t.In = append(t.In, api.Span{Lo: end, Hi: x.Lo})
		}
		end = x.Hi
	}
	return t
}

// toClash is the clash of terms' texts, with blanks between; of "always" the one without terms.
func toClash(s string) []api.Term {
	var c []api.Term
	for _, piece := range strings.Fields(s) {
		if piece != "always" {
			c = append(c, toTerm(piece))
		}
	}
	return c
}

// toClashes are the clashes of a text, with semicolons between.
func toClashes(s string) [][]api.Term {
	var l [][]api.Term
	for _, piece := range strings.Split(s, ";") {
		if strings.TrimSpace(piece) != "" {
			l = append(l, toClash(piece))
		}
	}
	return l
}

// toStep is the step of a text: "asked a", "released a", "needed a1 b", "joined a 0 1".
func toStep(s string) api.Step {
	words := strings.Fields(s)
	switch words[0] {
	case "asked":
		return asked(words[1])
	case "released":
		return released(words[1])
	case "needed":
		name, vers := parts(words[1])
		return needed(name, vers[0], words[2])
	case "joined":
		a, b := 0, 0
		if _, err := fmt.Sscan(words[2]+" "+words[3], &a, &b); err == nil {
			return joined(words[1], a, b)
		}
	}
	panic(s)
}

// toProof are the steps of a text, with semicolons between.
func toProof(s string) []api.Step {
	var l []api.Step
	for _, piece := range strings.Split(s, ";") {
		l = append(l, toStep(piece))
	}
	return l
}

// toEntry is the entry of a text: "a" has no releases, "a 1 2(b1,c)" has 1, which needs nothing, and 2; "a! 1" is a with such bytes, and one more; "a=b 1" is a with the bytes of "b 1".
func toEntry(t *testing.T, s string) api.Entry {
	t.Helper()
	words := strings.Fields(s)
	head, spoilt := strings.CutSuffix(words[0], "!")
	name, other, is := strings.Cut(head, "=")
	m := api.Manifest{Name: head}
	if is {
		m.Name = other
	}
	for _, word := range words[1:] {
		digit, needs, _ := strings.Cut(strings.TrimSuffix(word, ")"), "(")
		m.Releases = append(m.Releases, api.Release{Ver: int(digit[0] - '0'), Needs: toNeeds(strings.ReplaceAll(needs, ",", " "))})
	}
	e := api.Entry{Name: name, Body: body(t, m)}
	if spoilt {
		e.Body = append(e.Body, 0)
	}
	return e
}

// body is a manifest's bytes: it fails, if it may not be.
func body(t *testing.T, m api.Manifest) []byte {
	t.Helper()
	b := wire.Put(m)
	if len(b) == 0 {
		t.Fatalf("the manifest %v may not be", m)
	}
	return b
}

// puts fails, if an entry is not put.
func puts(t *testing.T, x *index.Index, e api.Entry) {
	t.Helper()
	if got := x.Put(e.Name, e.Body); got != api.OK {
		t.Fatalf("Put(%q, %.60q) = %d", e.Name, e.Body, got)
	}
}

// toIndex is an index of entries' texts, with semicolons between.
func toIndex(t *testing.T, s string) *index.Index {
	t.Helper()
	x := index.New()
	for _, piece := range strings.Split(s, ";") {
		if strings.TrimSpace(piece) != "" {
			puts(t, x, toEntry(t, piece))
		}
	}
	return x
}

// same tells whether clashes are alike.
func same(a, b []api.Term) bool {
	return slices.EqualFunc(a, b, func(x, y api.Term) bool {
		return x.Name == y.Name && x.None == y.None && slices.Equal(x.In, y.In)
	})
}

// deep is a clash in memory of its own.
func deep(c []api.Term) []api.Term {
	l := slices.Clone(c)
	for i := range l {
		l[i].Name, l[i].In = strings.Clone(l[i].Name), slices.Clone(l[i].In)
	}
	return l
}

// brief is what is printed of something, which may be long.
func brief(x any) string {
	return fmt.Sprintf("%.400s", fmt.Sprint(x))
}

// names are n names that may be, and rise, of four letters each.
func names(n int) []string {
	var l []string
	for i := range n {
		l = append(l, string([]byte{byte('a' + i/17576%26), byte('a' + i/676%26), byte('a' + i/26%26), byte('a' + i%26)}))
	}
	return l
}

// drawer draws plain numbers.
func drawer(seed uint64) func(n int) int {
	return func(n int) int {
		seed = seed*6364136223846793005 + 1442695040888963407
		return int(seed>>33) % n
	}
}

// three are the names of what is drawn.
var three = [3]string{"a", "b", "γ"}

// drawnNeeds are up to n needs, drawn, in versions of 1 to 3.
func drawnNeeds(draw func(int) int, n int) []api.Need {
	var l []string
	for range draw(n + 1) {
		l = append(l, three[draw(3)])
	}
	slices.Sort(l)
	var needs []api.Need
	for _, name := range slices.Compact(l) {
		needs = append(needs, toNeed(name+[]string{"", "", "1", "2", "3", "12", "13", "23", "13", "!"}[draw(10)]))
	}
	return needs
}

// drawnEntry is the entry of a name, in versions of 0 to 3: one in eight is broken.
func drawnEntry(t *testing.T, draw func(int) int, name string) api.Entry {
	t.Helper()
	m := api.Manifest{Name: name}
	for ver := range 4 {
		if draw(3) > 0 {
			m.Releases = append(m.Releases, api.Release{Ver: ver, Needs: drawnNeeds(draw, 2)})
		}
	}
	e := api.Entry{Name: name, Body: body(t, m)}
	if draw(8) == 0 {
		e.Body = append(e.Body, 0)
	}
	return e
}

// drawnIndex knows some of the three names, and tells the entries of the others.
func drawnIndex(t *testing.T, draw func(int) int) (*index.Index, []api.Entry) {
	t.Helper()
	x := index.New()
	var others []api.Entry
	for _, name := range three {
		e := drawnEntry(t, draw, name)
		if draw(6) == 0 {
			others = append(others, e)
			continue
		}
		puts(t, x, e)
	}
	return x, others
}

// choices are all picks of the three names, in versions of 0 to 4.
func choices() [][]api.Pick {
	l := [][]api.Pick{nil}
	for _, name := range three {
		for _, p := range slices.Clone(l) {
			for ver := range 5 {
				l = append(l, append(slices.Clone(p), api.Pick{Name: name, Ver: ver}))
			}
		}
	}
	return l
}

// full is a manifest that has as much of all as there may be.
func full() api.Manifest {
	m := api.Manifest{Name: "a"}
	for i := range api.MaxReleases {
		r := api.Release{Ver: 100 * i}
		for j := range api.MaxNeeds {
			n := api.Need{Name: "a" + strings.Repeat("z", j)}
			for k := range api.MaxSpans {
				n.In = append(n.In, api.Span{Lo: i + 10*j + 100*k + 1, Hi: i + 10*j + 100*k + 2})
			}
			r.Needs = append(r.Needs, n)
		}
		m.Releases = append(m.Releases, r)
	}
	return m
}

// The texts that the tests lean on.
func TestWhatTestsLeanOn(t *testing.T) {
	got := toClashes("a -b1; always; -a13 b!? γ02; a!?")
	want := [][]api.Term{
		{{Name: "a", In: []api.Span{{Lo: 0, Hi: top}}}, {Name: "b", In: []api.Span{{Lo: 0, Hi: 1}, {Lo: 2, Hi: top}}, None: true}},
		nil,
		{{Name: "a", In: []api.Span{{Lo: 0, Hi: 1}, {Lo: 2, Hi: 3}, {Lo: 4, Hi: top}}, None: true}, {Name: "b", None: true}, {Name: "γ", In: []api.Span{{Lo: 0, Hi: 1}, {Lo: 2, Hi: 3}}}},
		{{Name: "a", None: true}},
	}
	if !slices.EqualFunc(got, want, same) {
		t.Errorf("the clashes are %v", got)
	}
	steps := []api.Step{{Kind: 1, Name: "a"}, {Kind: 2, Name: "γ"}, {Kind: 3, Name: "a", Ver: 1, To: "b"}, {Kind: 4, Name: "b", A: 2, B: 10}}
	if got := toProof("asked a; released γ; needed a1 b; joined b 2 10"); !slices.Equal(got, steps) {
		t.Errorf("the steps are %v", got)
	}
	x := toIndex(t, "a; b 1; c 1 2(a,b13) 3; d! 1; e=a 1")
	for i, want := range []int{0, 1, 3, -1, -1, -1} {
		m, ok := x.Get(string(rune('a' + i)))
		if ok != (want >= 0) || len(m.Releases) != max(want, 0) || x.Has(m.Name) != (i < 5) {
			t.Errorf("the name %q has %v, %v", m.Name, m, ok)
		}
	}
	if got := strconv.Itoa(len(choices())); got != "216" {
		t.Errorf("there are %s choices", got)
	}
}
