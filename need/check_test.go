package need_test

import (
	"math"
	"reflect"
	"slices"
	"strings"
	"testing"

	"comprador/api"
	"comprador/need"
)

// spans are those that begin and end at numbers, two by two.
func spans(ends ...int) []api.Span {
	var l []api.Span
	for i := 0; i < len(ends); i += 2 {
		l = append(l, api.Span{Lo: ends[i], Hi: ends[i+1]})
	}
	return l
}

// all is the set of all versions.
var all = spans(0, 1000000000)

// of is a need.
func of(name string, ends ...int) api.Need {
	return api.Need{Name: name, In: spans(ends...)}
}

// list is a list of needs.
func list(l ...api.Need) []api.Need { return l }

// named are needs of some names, each in any version.
func named(names ...string) []api.Need {
	var l []api.Need
	for _, name := range names {
		l = append(l, of(name, 0, 1000000000))
	}
	return l
}

// alike tells whether needs are alike, without the package that tells it.
func alike(a, b []api.Need) bool {
	if len(a) != len(b) {
		return false
	}
	for i := range a {
		if a[i].Name != b[i].Name || !slices.Equal(a[i].In, b[i].In) {
			return false
		}
	}
	return true
}

// manySpans are n spans that stand in order, with places between.
func manySpans(n int) []api.Span {
	var l []api.Span
	for i := range n {
		l = append(l, api.Span{Lo: 2*i + 1, Hi: 2*i + 2})
	}
	return l
}

// mayBe are needs that may be.
var mayBe = [][]api.Need{
	nil, {}, named("a"), named("ω"), named("a-1"), named("abcdefghijkl"), named("αβγδεζηθικλμ"), named("a", "b"), named("a", "aa"), named("a", "a-"), named("a-", "a0", "aa"), named("z", "α"), named("z9", "α", "αa", "β"),
	named("a", "b", "c", "d", "e", "f"), named("α", "β", "γ", "δ", "ε", "ζ"), named("a-", "a-0", "a-a", "a0", "aa", "aα"),
	{of("a")}, {{Name: "a", In: []api.Span{}}}, {of("a"), of("b")}, {of("a", 1000000, 2000000)}, {of("a", 0, 1)}, {of("a", 999999999, 1000000000)}, {of("a", 0, 1, 2, 3)}, {of("a", 5, 9), of("b", 1, 3)}, {of("a", 5, 9), of("b", 5, 9)},
	{{Name: "a", In: manySpans(6)}}, {{Name: "a", In: manySpans(5)}}, {of("a", 1, 2), {Name: "b", In: manySpans(6)}}, {{Name: "a", In: manySpans(6)}, {Name: "b", In: manySpans(6)}},
	{of("b", 1000000, 2000000), of("c", 0, 1000000000)},
}

// mayNot are needs that may not be.
var mayNot = [][]api.Need{
	// names that may not be
	named(""), named("1a"), named("-a"), named("A"), named("a b"), named(" a"), named("a "), named("a;"), named("a;b"), named("a.b"), named("Ω"), named("\xff"), named("a\xff"), named("abcdefghijklm"), named("αβγδεζηθικλμν"), named(strings.Repeat("a", 4000)),
	named("", "a"), named("a", ""), named("a", "B"), named("a", "1"), named("a", "b", "C"), named("a", "b_"), named("A", "b"),
	// names that do not rise
	named("a", "a"), named("b", "a"), named("aa", "a"), named("a0", "a-"), named("a", "a0", "a-"), named("α", "z"), named("a", "b", "b"), named("a", "c", "b"), named("b", "a", "c"), named("a", "b", "a"), named("β", "α"),
	// no sets
	{of("a", 0, 0)}, {of("a", 5, 4)}, {of("a", -1, 5)}, {of("a", 0, 1000000001)}, {of("a", 1, 5, 5, 9)}, {of("a", 1, 5, 3, 9)}, {of("a", 5, 9, 1, 3)}, {of("a", 1, 5, 1, 5)}, {of("a", math.MinInt, math.MaxInt)},
	{of("a", 1, 2), of("b", 2, 1)}, {of("a", 2, 1), of("b", 1, 2)}, {of("a"), of("b", 3, 3)},
	// too many spans
	{{Name: "a", In: manySpans(7)}}, {{Name: "a", In: manySpans(1000)}}, {of("a", 1, 2), {Name: "b", In: manySpans(7)}}, {{Name: "a", In: manySpans(7)}, of("b", 1, 2)},
	// too many needs
	named("a", "b", "c", "d", "e", "f", "g"), named("a", "b", "c", "d", "e", "f", "g", "h", "i"),
}

// lists are needs that may be, and others.
func lists() [][]api.Need {
	return append(slices.Clone(mayBe), mayNot...)
}

// P8.1
func TestCheck(t *testing.T) {
	for _, l := range mayBe {
		if !need.Check(l) {
			t.Errorf("Check(%v) = false", l)
		}
	}
	for _, l := range mayNot {
		if need.Check(l) {
			t.Errorf("Check(%v) = true", l)
		}
	}
}

// P8.1: needs may be just if each is a need that may be, and each two that stand beside one another rise.
func TestCheckOfAllShortLists(t *testing.T) {
	names := []string{"", "a", "a-", "a0", "b", "α", "A"}
	ins := [][]api.Span{nil, all, spans(1, 2, 3, 4), spans(2, 1), manySpans(7)}
	var some []api.Need
	var good []bool
	for i, name := range names {
		for j, in := range ins {
			some = append(some, api.Need{Name: name, In: in})
			good = append(good, i >= 1 && i <= 5 && j <= 2)
		}
	}
	for i, x := range some {
		for j, y := range some {
			want := good[i] && good[j] && i/len(ins) < j/len(ins)
			if got := need.Check(list(x, y)); got != want {
				t.Fatalf("Check(%v, %v) = %v", x, y, got)
			}
			if !want {
				continue
			}
			for k, z := range some {
				want := good[k] && j/len(ins) < k/len(ins)
				if got := need.Check(list(x, y, z)); got != want {
					t.Fatalf("Check(%v, %v, %v) = %v", x, y, z, got)
				}
			}
		}
	}
}

// P8.1: of any lists, two by two.
func TestSame(t *testing.T) {
	l := append(lists(), named("a", "c"), list(of("a", 5, 9), of("b", 1, 4)), list(of("a", 5, 9), of("b", 1, 3), of("b", 1, 3)), list(of("c", 5, 9), of("b", 1, 3)), list(of("a", 6, 9), of("b", 1, 3)), list(of("b", 1, 3), of("a", 5, 9)))
	same := 0
	for i, a := range l {
		for j, b := range l {
			want := alike(a, b)
			if got := need.Same(a, b); got != want || i == j && !got {
				t.Errorf("Same(%v, %v) = %v", a, b, got)
			}
			if want && i != j {
				same++
			}
		}
	}
	if same == 0 {
		t.Error("no two lists that are not one were alike")
	}
	// Memory is not what is asked for; an empty list is none.
	for _, a := range l {
		var b []api.Need
		for _, n := range a {
			b = append(b, api.Need{Name: strings.Clone(n.Name), In: slices.Clone(n.In)})
		}
		if !need.Same(a, b) || !need.Same(b, a) {
			t.Errorf("Same(%v) of one that is made anew = false", a)
		}
	}
	if !need.Same(nil, []api.Need{}) || !need.Same(list(of("a")), list(api.Need{Name: "a", In: []api.Span{}})) {
		t.Error("an empty list is not alike to none")
	}
}

// P8.1
func TestFind(t *testing.T) {
	three := list(of("a", 5, 9), of("b"), of("α", 1, 3, 7, 8))
	for _, c := range []struct {
		l    []api.Need
		name string
		want []api.Span
		ok   bool
	}{
		{three, "a", spans(5, 9), true}, {three, "b", nil, true}, {three, "α", spans(1, 3, 7, 8), true},
		{three, "c", nil, false}, {three, "", nil, false}, {three, "A", nil, false}, {three, "a ", nil, false}, {three, " a", nil, false}, {three, "aa", nil, false}, {three, "β", nil, false}, {three, "\xce", nil, false}, {three, strings.Repeat("a", 1<<16), nil, false},
		{nil, "a", nil, false}, {nil, "", nil, false}, {[]api.Need{}, "a", nil, false},
		// of any list: the first one of that name
		{list(of("a", 1, 2), of("a", 3, 4)), "a", spans(1, 2), true}, {list(of("b", 1, 2), of("a", 3, 4), of("a", 5, 6)), "a", spans(3, 4), true}, {list(of("a"), of("a", 3, 4)), "a", nil, true},
		{list(of("", 1, 2)), "", spans(1, 2), true}, {list(of("a", 1, 2), of("", 3, 4)), "", spans(3, 4), true}, {list(of("A b;", 1, 2)), "A b;", spans(1, 2), true}, {list(of("\xff", 1, 2)), "\xff", spans(1, 2), true}, {list(of("\xff", 1, 2)), "\xfe", nil, false}, {list(of("\xff", 1, 2)), "\ufffd", nil, false},
		{list(of("z", 1, 2), of("y", 3, 4), of("x", 5, 6)), "x", spans(5, 6), true}, {list(of("a", 9, 1)), "a", spans(9, 1), true}, {list(of("a", -5, -9, 1, 1)), "a", spans(-5, -9, 1, 1), true}, {list(api.Need{Name: "a", In: manySpans(50)}), "a", manySpans(50), true},
		{named("a", "b", "c", "d", "e", "f", "g", "h"), "h", all, true},
	} {
		if got, ok := need.Find(c.l, c.name); !slices.Equal(got, c.want) || ok != c.ok {
			t.Errorf("Find(%v, %q) = %v, %v", c.l, c.name, got, ok)
		}
	}
	for _, l := range lists() {
		for i, n := range l {
			first := slices.IndexFunc(l, func(m api.Need) bool { return m.Name == n.Name })
			if got, ok := need.Find(l, n.Name); !slices.Equal(got, l[first].In) || !ok {
				t.Errorf("Find(%v, %q) = %v, %v: the %d. need", l, n.Name, got, ok, i)
			}
		}
	}
}

// The limits that the chapter and DOC.md name.
func TestLimits(t *testing.T) {
	if got := []int{need.MaxText, api.MaxSpans, api.MaxNeeds}; !reflect.DeepEqual(got, []int{2000, 6, 6}) {
		t.Errorf("the limits are %v", got)
	}
}
