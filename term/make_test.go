package term_test

import (
	"fmt"
	"slices"
	"strings"
	"testing"

	"comprador/api"
)

// top is behind the last place of a version.
const top = 1000000000

// spans are those that begin and end at numbers, two by two.
func spans(ends ...int) []api.Span {
	var l []api.Span
	for i := 0; i < len(ends); i += 2 {
		l = append(l, api.Span{Lo: ends[i], Hi: ends[i+1]})
	}
	return l
}

// in is the term that a package is chosen in the versions between some ends.
func in(name string, ends ...int) api.Term {
	return api.Term{Name: name, In: spans(ends...)}
}

// or is a term, or that its package is not chosen.
func or(t api.Term) api.Term {
	t.None = true
	return t
}

// cuts are places that cut all versions into cells, rising, the bounds and their neighbours among them.
var cuts = []int{0, 1, 2, 7, 1000, 999999998, 999999999, top}

const (
	cells  = 7          // how many cells there are
	none   = 1 << cells // behind the bits of the cells that of a mask that tells that a package is not chosen
	every  = 2*none - 1 // the mask of all states
	states = cells + 1  // how many bits a mask has
)

// set is the term of a mask's states, put down cell by cell.
func set(name string, mask int) api.Term {
	t := api.Term{Name: name, None: mask&none != 0}
	for i := range cells {
		if mask>>i&1 == 0 {
			continue
		}
		if i > 0 && mask>>(i-1)&1 == 1 {
			t.In[len(t.In)-1].Hi = cuts[i+1]
			continue
		}
		t.In = append(t.In, api.Span{Lo: cuts[i], Hi: cuts[i+1]})
	}
	return t
}

// alike tells whether terms are alike, without the package that tells it.
func alike(a, b api.Term) bool {
	return a.Name == b.Name && a.None == b.None && slices.Equal(a.In, b.In)
}

// is fails, if a term is another one than it should be.
func is(t *testing.T, call string, got, want api.Term) {
	t.Helper()
	if !alike(got, want) {
		t.Errorf("%s = %s, not %s", call, brief(got), brief(want))
	}
}

// brief is what is printed of a term, which may be long.
func brief(x api.Term) string {
	return fmt.Sprintf("{%.40q %.100s %v}", x.Name, fmt.Sprint(x.In), x.None)
}

// version is the text of a place, put down without the packages that do.
func version(place int) string {
	return fmt.Sprintf("%d.%d.%d", place/1000000, place/1000%1000, place%1000)
}

// shown is the text of a term that may be, put down without the packages that do.
func shown(t api.Term) string {
	var pieces []string
	for _, s := range t.In {
		switch {
		case s.Lo == 0 && s.Hi == top:
			pieces = append(pieces, "any")
		case s.Hi-s.Lo == 1:
			pieces = append(pieces, "="+version(s.Lo))
		case s.Lo == 0:
			pieces = append(pieces, "<"+version(s.Hi))
		case s.Hi == top:
			pieces = append(pieces, ">="+version(s.Lo))
		default:
			pieces = append(pieces, ">="+version(s.Lo)+" <"+version(s.Hi))
		}
	}
	text := strings.Join(pieces, " | ")
	switch {
	case t.None && text == "any":
		text = "whatever"
	case t.None && text == "":
		text = "absent"
	case t.None:
		text += " or absent"
	case text == "":
		text = "nowhere"
	}
	return t.Name + " " + text
}

// many are n spans of one version each, with one version ahead of each.
func many(n int) []api.Span {
	var l []api.Span
	for i := range n {
		l = append(l, api.Span{Lo: 2*i + 1, Hi: 2*i + 2})
	}
	return l
}

// goodNames are names that may be.
var goodNames = []string{"a", "z", "α", "ω", "a0", "a-1", "α-1", "any", "none", "absent", "abcdefghijkl", "αβγδεζηθικλμ"}

// badNames are names that may not be.
var badNames = []string{
	"", " ", "A", "1", "-", "1a", "-a", "a b", " a", "a ", "a_", "a\x00", "\x00", "Ω", "é", "\xce", "a\xce", "\xff", "a\xff",
	"abcdefghijklm", "αβγδεζηθικλμν", strings.Repeat("a", 25), strings.Repeat("ω", 13), strings.Repeat("a", 9000),
}

// goodSets are lists that are sets.
var goodSets = [][]api.Span{
	nil, {}, spans(0, top), spans(0, 1), spans(0, top-1), spans(1, top), spans(999999999, top), spans(5, 9), spans(5, 9, 10, 12), spans(0, 1, 2, top), many(6), many(7), many(1000),
}

// badSets are lists that are no sets.
var badSets = [][]api.Span{
	spans(5, 5), spans(0, 0), spans(top, top), spans(9, 5), spans(-1, 5), spans(-5, -1), spans(-1, 0), spans(0, top+1), spans(top, top+1), spans(-1<<63, 1<<63-1), spans(1<<63-1, -1<<63),
	spans(1, 5, 5, 9), spans(1, 5, 4, 9), spans(5, 9, 1, 3), spans(1, 5, 1, 5), spans(1, 5, 7, 7), spans(1, 5, 9, 7), spans(3, 3, 5, 9), spans(1, 5, 8, top+1), spans(0, top, 0, top), append(many(7), api.Span{}), make([]api.Span, 9),
}

// mayBe are terms that may be.
func mayBe() []api.Term { return terms(goodNames, goodSets) }

// mayNot are terms that may not be: by their names, by their sets, and by both.
func mayNot() []api.Term {
	return slices.Concat(terms(badNames, goodSets), terms(goodNames, badSets), terms(badNames, badSets))
}

// terms are those of some names and lists, each with None and without.
func terms(names []string, lists [][]api.Span) []api.Term {
	var l []api.Term
	for _, name := range names {
		for _, list := range lists {
			t := api.Term{Name: name, In: list}
			l = append(l, t, or(t))
		}
	}
	return l
}
