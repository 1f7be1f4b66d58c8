package clash_test

import (
	"fmt"
	"slices"
	"strings"
	"testing"

	"comprador/api"
)

// top is behind the last place of a version.
const top = 1000000000

// spans are those that begin and end at numbers, two by two.
func spans(ends ...int) []api.Span {
	var l []api.Span
	for i := 0; i < len(ends); i += 2 {
		l = append(l, api.Span{Lo: ends[i], Hi: ends[i+1]})
	}
	return l
}

// in is the term that a package is chosen in the versions between some ends.
func in(name string, ends ...int) api.Term {
	return api.Term{Name: name, In: spans(ends...)}
}

// or is a term, or that its package is not chosen.
func or(t api.Term) api.Term {
	t.None = true
	return t
}

// list is a list of terms.
func list(l ...api.Term) []api.Term { return l }

// cuts are the places that cut all versions into two cells.
var cuts = []int{0, 5, top}

// The masks of a package's states: the versions below 5, those from 5 on, and that it is not chosen.
const (
	low   = 1
	high  = 2
	gone  = 4
	every = 7
)

// set is the term of a mask's states.
func set(name string, mask int) api.Term {
	t := api.Term{Name: name, None: mask&gone != 0}
	switch mask & (low | high) {
	case low:
		t.In = spans(0, 5)
	case high:
		t.In = spans(5, top)
	case low | high:
		t.In = spans(0, top)
	}
	return t
}

// three are the names of the clashes that masks make.
var three = [3]string{"a", "a-", "β"}

// masks are the states that a clash has of three names: all, of those that it has no term of.
type masks [3]int

// clash is the clash of masks, none of which is empty.
func (m masks) clash() []api.Term {
	var c []api.Term
	for i, name := range three {
		if m[i] != every {
			c = append(c, set(name, m[i]))
		}
	}
	return c
}

// come is the clash that masks come to, and true; none, and false, if one is empty.
func (m masks) come() ([]api.Term, bool) {
	if slices.Contains(m[:], 0) {
		return nil, false
	}
	return m.clash(), true
}

// both are the states that two masks have.
func (m masks) both(n masks) masks {
	for i := range m {
		m[i] &= n[i]
	}
	return m
}

// holds tells whether the clash of masks holds, where each of three names has one state.
func (m masks) holds(states masks) bool {
	return m.both(states) == states
}

// all are the masks of all clashes of three names.
func all() []masks {
	var l []masks
	for a := 1; a <= every; a++ {
		for b := 1; b <= every; b++ {
			for c := 1; c <= every; c++ {
				l = append(l, masks{a, b, c})
			}
		}
	}
	return l
}

// picked are picks, and the states that three names have by them.
type picked struct {
	picks  []api.Pick
	states masks
}

// choices are all choices of states of three names, as picks at the first and the last place of each cell, with a pick of another name, and without.
func choices() []picked {
	l := []picked{{}}
	for i, name := range three {
		var longer []picked
		for _, p := range l {
			for cell := range 2 {
				for _, place := range []int{cuts[cell], cuts[cell+1] - 1} {
					q := picked{append(slices.Clone(p.picks), api.Pick{Name: name, Ver: place}), p.states}
					q.states[i] = 1 << cell
					longer = append(longer, q)
				}
			}
			p.states[i] = gone
			longer = append(longer, p)
		}
		l = longer
	}
	for _, p := range l {
		l = append(l, picked{append(slices.Clone(p.picks), api.Pick{Name: "ω", Ver: 3}), p.states})
	}
	return l
}

// alike tells whether terms are alike, without the package that tells it.
func alike(a, b api.Term) bool {
	return a.Name == b.Name && a.None == b.None && slices.Equal(a.In, b.In)
}

// same tells whether lists of terms are alike, without the package that tells it.
func same(a, b []api.Term) bool {
	return slices.EqualFunc(a, b, alike)
}

// is fails, if a call told another clash than it should, or another truth.
func is(t *testing.T, call string, got []api.Term, ok bool, want []api.Term, is bool) {
	t.Helper()
	if !same(got, want) || ok != is {
		t.Fatalf("%s = %s, %v, not %s, %v", call, brief(got), ok, brief(want), is)
	}
	if len(got) == 0 && got != nil {
		t.Fatalf("%s told an empty list that is not none", call)
	}
}

// brief is what is printed of terms, which may be long.
func brief(l []api.Term) string {
	return fmt.Sprintf("%.300s", fmt.Sprint(l))
}

// deep are terms in memory of their own.
func deep(l []api.Term) []api.Term {
	var c []api.Term
	for _, x := range l {
		c = append(c, api.Term{Name: strings.Clone(x.Name), In: slices.Clone(x.In), None: x.None})
	}
	return c
}

// letters are n names that may be, and rise, of four letters each.
func letters(n int) []string {
	var l []string
	for i := range n {
		l = append(l, string([]byte{byte('a' + i/17576%26), byte('a' + i/676%26), byte('a' + i/26%26), byte('a' + i%26)}))
	}
	return l
}

// named are terms of some names, each with another set.
func named(names ...string) []api.Term {
	var l []api.Term
	for i, name := range names {
		x := in(name, i, 2*i+1)
		x.None = i%2 == 1
		l = append(l, x)
	}
	return l
}

// many are n spans of one version each, with one version ahead of each.
func many(n int) []api.Span {
	var l []api.Span
	for i := range n {
		l = append(l, api.Span{Lo: 2*i + 1, Hi: 2*i + 2})
	}
	return l
}

// goodNames are names that may be, by their order.
var goodNames = []string{"a", "a-", "a-1", "a0", "aa", "abcdefghijkl", "absent", "aα", "b", "z", "z9", "α", "α-1", "αa", "αβγδεζηθικλμ", "β", "ω"}

// badNames are names that may not be.
var badNames = []string{
	"", " ", "A", "1", "-", "1a", "-a", "a b", " a", "a ", "a_", "a\x00", "\x00", "Ω", "é", "\xce", "a\xce", "\xff", "a\xff",
	"abcdefghijklm", "αβγδεζηθικλμν", strings.Repeat("a", 25), strings.Repeat("ω", 13), strings.Repeat("a", 9000),
}

// badSets are lists that are no sets.
var badSets = [][]api.Span{
	spans(5, 5), spans(0, 0), spans(top, top), spans(9, 5), spans(-1, 5), spans(-5, -1), spans(0, top+1), spans(top, top+1), spans(-1<<63, 1<<63-1), spans(1<<63-1, -1<<63),
	spans(1, 5, 5, 9), spans(1, 5, 4, 9), spans(5, 9, 1, 3), spans(1, 5, 1, 5), spans(1, 5, 7, 7), spans(1, 5, 9, 7), spans(0, 5, 5, top), spans(0, top, 0, top), append(many(7), api.Span{}), make([]api.Span, 9),
}

// goodTerms are terms of a name that may stand in a clash.
func goodTerms(name string) []api.Term {
	return []api.Term{
		in(name, 0, top), or(in(name)), or(api.Term{Name: name, In: []api.Span{}}), in(name, 0, 1), or(in(name, 0, 1)), in(name, 999999999, top), or(in(name, 1, top)), or(in(name, 0, top-1)), in(name, 5, 9), or(in(name, 5, 9, 10, 12)), or(in(name, 0, 5, 6, top)), {Name: name, In: many(7)}, or(api.Term{Name: name, In: many(1000)}),
	}
}

// badTerms are terms of a name that may not stand in a clash: full, empty, or such as may not be.
func badTerms(name string) []api.Term {
	l := []api.Term{or(in(name, 0, top)), in(name), {Name: name, In: []api.Span{}}, {}}
	for _, set := range badSets {
		l = append(l, api.Term{Name: name, In: set}, or(api.Term{Name: name, In: set}))
	}
	return l
}

// mayBe are clashes that may be.
func mayBe() [][]api.Term {
	l := [][]api.Term{nil, {}, named(goodNames...), named(letters(100)...), named(letters(5000)...)}
	for i, name := range goodNames {
		for j, x := range goodTerms(name) {
			l = append(l, list(x))
			if i > 0 {
				ahead := goodTerms(goodNames[i-1])
				l = append(l, list(ahead[j], x), list(ahead[len(ahead)-1-j], x))
			}
		}
	}
	return l
}

// mayNot are clashes that may not be.
func mayNot() [][]api.Term {
	l := [][]api.Term{
		named("a", "a"), named("b", "a"), named("aa", "a"), named("a0", "a-"), named("α", "z"), named("β", "α"), named("a", "b", "b"), named("a", "a", "b"), named("a", "c", "b"), named("b", "a", "c"), named("a", "b", "a"),
		list(in("a", 5, 9), in("a", 5, 9)), list(in("a", 5, 9), or(in("a"))), list(or(in("a")), in("a", 0, 5), in("b", 1, 2)),
		append(named(letters(100)...), in("aaaa", 1, 2)), append(named("b"), named(letters(100)...)...),
	}
	for _, name := range badNames {
		l = append(l, list(in(name, 5, 9)), list(or(in(name))), list(in("a", 5, 9), in(name, 5, 9)), list(in(name, 5, 9), in("ω", 5, 9)), list(or(in(name, 0, top))), list(in(name)))
	}
	for _, x := range badTerms("b") {
		l = append(l, list(x), list(in("a", 5, 9), x), list(x, in("c", 5, 9)), list(in("a", 5, 9), x, in("c", 5, 9)))
	}
	return l
}
