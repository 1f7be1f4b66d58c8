package fit_test

import (
	"math"
	"slices"
	"strings"
	"testing"
	"unsafe"

	"comprador/api"
	"comprador/fit"
	"comprador/index"
)

// noNames are names that may not be.
func noNames() []string {
	return []string{
		"", " ", "A", "1", "-", "1a", "-a", "a b", "a_", "a\x00", "\x00", "Ω", "é", "\xce", "a\xce", "\xff", "a\xff",
		"abcdefghijklm", "αβγδεζηθικλμν", strings.Repeat("a", 25), strings.Repeat("ω", 13), strings.Repeat("a", 9000), strings.Repeat("\xff", 1<<18),
	}
}

// within tells whether two texts share memory.
func within(a, b string) bool {
	at := uintptr(unsafe.Pointer(unsafe.StringData(a)))
	from := uintptr(unsafe.Pointer(unsafe.StringData(b)))
	return at < from+uintptr(len(b)) && from < at+uintptr(len(a))
}

// long are needs and picks, with others behind their lengths, and behind those of the needs' sets.
func long(root []api.Need, l []api.Pick) ([]api.Need, []api.Pick) {
	var needs []api.Need
	for _, n := range root {
		needs = append(needs, api.Need{Name: n.Name, In: append(slices.Clone(n.In), behindSpan)[:len(n.In)]})
	}
	return append(needs, behindNeed)[:len(root)], append(slices.Clone(l), behindPick)[:len(l)]
}

// What lies behind lengths.
var (
	behindSpan = api.Span{Lo: 0, Hi: top}
	behindNeed = api.Need{Name: "zzz"}
	behindPick = api.Pick{Name: "zz", Ver: 1}
)

// 0.5, 0.8: what is given is not changed, nor read or written behind its length.
func TestGivenListsStay(t *testing.T) {
	x := toIndex(t, "a 1(b,zz) 2(b13); b 1 2 3; c 1; zz 1")
	for _, root := range []string{"", "a", "a2 b!", "a b1 c", "c13", "d"} {
		for _, l := range []string{"", "a1", "a2 b1", "a2 b2", "a1 b3 c1", "b1", "c1", "d1", "a1 b1 zz1"} {
			needs, picks := long(toNeeds(root), toPicks(l))
			number, name := modelOf(x, toNeeds(root), toPicks(l)).wrong()
			isWrong(t, x, needs, picks, number, name)
			isNeeded(t, x, needs, picks, modelOf(x, toNeeds(root), toPicks(l)).needed())
			for i, want := range append(toNeeds(root), behindNeed) {
				got := needs[:len(needs)+1][i]
				if got.Name != want.Name || !slices.Equal(got.In, want.In) {
					t.Fatalf("the need %d became %v", i, got)
				}
				if i < len(needs) && got.In[:len(got.In)+1][len(got.In)] != behindSpan {
					t.Fatalf("what lies behind the set of %q became %v", got.Name, got.In[:len(got.In)+1])
				}
			}
			if got := picks[:len(picks)+1]; !slices.Equal(got, append(toPicks(l), behindPick)) {
				t.Fatalf("the picks became %v", got)
			}
		}
	}
}

// 0.5: an index is not changed.
func TestIndexStays(t *testing.T) {
	const known = "a 1(b,c) 2; b 1(d); c! 1; e=a 1"
	x, y := toIndex(t, known), toIndex(t, known)
	for range 3 {
		for _, l := range []string{"", "a1", "a1 b1 c1", "a2", "a2 b1", "e1", "f1"} {
			asModel(t, x, toNeeds("a f"), toPicks(l))
			asModel(t, x, toNeeds("a"), toPicks(l))
		}
		if !slices.Equal(x.Names(), y.Names()) {
			t.Fatalf("the names that are known are %q", x.Names())
		}
		for _, name := range y.Names() {
			got, ok := x.Get(name)
			want, also := y.Get(name)
			if ok != also || ok && !slices.Equal(body(t, got), body(t, want)) {
				t.Fatalf("%q became %v, %v", name, got, ok)
			}
		}
	}
}

// 0.5: what is told is new memory, each time, and stays as it was told.
func TestAnswersAreNew(t *testing.T) {
	x := toIndex(t, "a 1(b,c); b 1(d)")
	root, l := toNeeds("a e"), toPicks("a1 b1")
	names := fit.Needed(x, root, l)
	again := fit.Needed(x, root, l)
	for i := range again[:cap(again)] {
		again[:cap(again)][i] = "spoilt"
	}
	puts(t, x, toEntry(t, "c 1(f)"))
	root[0].Name, l[0].Name = "x", "x"
	if !slices.Equal(names, strings.Fields("a b c d e")) {
		t.Errorf("what was told became %q", names)
	}
	isNeeded(t, x, toNeeds("a e"), toPicks("a1 b1 c1"), strings.Fields("a b c d e f"))
}

// 0.5: the texts, too, that are told share no memory with what was given, nor with one another.
func TestTextsAreNew(t *testing.T) {
	text := strings.Repeat("abc", 4)
	root := []api.Need{of(text[:4], 0, top), of(text[1:5], 0, top)}
	l := []api.Pick{at(text[:4], 1), at(text[1:5], 1), at(text[2:6], 1)}
	good := knows(t, pack("abca", rel(1, of("cabc", 0, top), of("d", 0, top))), pack("bcab", rel(1)), pack("cabc", rel(1)), pack("d", rel(1)))
	free := knows(t, pack("abca", rel(1)), pack("bcab", rel(1)), pack("cabc", rel(1)))
	var texts []string
	for range 2 {
		for _, c := range []struct {
			x      *index.Index
			root   []api.Need
			l      []api.Pick
			number int
		}{{good, root, nil, 2}, {good, root, l[:1], 2}, {nil, nil, l, 3}, {good, root, l, 4}, {free, root, l, 5}} {
			number, name := fit.Wrong(c.x, c.root, c.l)
			if number != c.number {
				t.Fatalf("of %v wrong are %d, %q, not %d", c.l, number, name, c.number)
			}
			texts = append(texts, name)
		}
		texts = append(texts, fit.Needed(good, root, l)...)
		texts = append(texts, fit.Needed(nil, root, nil)...)
	}
	if len(texts) != 2*(5+4+2) {
		t.Fatalf("there are %d texts", len(texts))
	}
	for i, s := range texts {
		if within(s, text) {
			t.Errorf("%q is in the memory of what was given", s)
		}
		for _, other := range texts[:i] {
			if within(s, other) {
				t.Errorf("two texts %q share memory", s)
			}
		}
	}
}

// 0.8: no names are none.
func TestOfNoneIsNil(t *testing.T) {
	for _, x := range []*index.Index{nil, {}, index.New(), toIndex(t, "a 1(b); b 1")} {
		for _, root := range [][]api.Need{nil, {}, toNeeds("a b")[:0]} {
			for _, l := range [][]api.Pick{nil, {}, toPicks("a1 b1")[:0]} {
				if got := fit.Needed(x, root, l); got != nil {
					t.Errorf("there are needed %#v", got)
				}
				isWrong(t, x, root, l, 0, "")
			}
			if got := fit.Needed(x, root, toPicks("a1 b1")); got != nil {
				t.Errorf("there are needed %#v", got)
			}
		}
	}
}

// 0.1: no call panics, or goes on for ever, of needs and picks that may not be, either.
func TestAnyArguments(t *testing.T) {
	roots := [][]api.Need{nil, toNeeds("a"), toNeeds("a b"), toNeeds("a a"), toNeeds("b a b a"), make([]api.Need, 100), slices.Repeat(toNeeds("a b c"), 1000)}
	roots = append(roots, []api.Need{of("a", 5, 5)}, []api.Need{of("a", 9, 5), of("b", -1, 0)}, []api.Need{of("a", math.MinInt, math.MaxInt)}, []api.Need{of("a", 5, 9, 1, 2)}, []api.Need{{Name: "a", In: make([]api.Span, 7)}})
	lists := [][]api.Pick{nil, toPicks("a1"), toPicks("a1 b1"), toPicks("a1 a1"), toPicks("b1 a1 b1"), make([]api.Pick, 100), slices.Repeat(toPicks("a1 b1 c2"), 1000), slices.Repeat(toPicks("c1 b1 a1"), 1000)}
	for _, ver := range []int{math.MinInt, -1, 0, top - 1, top, math.MaxInt} {
		lists = append(lists, []api.Pick{at("a", ver)}, []api.Pick{at("a", 1), at("b", ver)}, []api.Pick{at("c", ver), at("a", ver)})
	}
	for _, name := range noNames() {
		roots = append(roots, []api.Need{of(name, 0, top)}, []api.Need{of("a", 0, top), of(name, 1, 2), of("b")})
		lists = append(lists, []api.Pick{at(name, 1)}, []api.Pick{at(name, 1), at("a", 1), at(name, -1)})
	}
	for _, x := range []*index.Index{nil, {}, index.New(), toIndex(t, "a 1(b) 2(b1,c); b 1(a,b,c) 2; c! 1; e=a 1(b)")} {
		for _, root := range roots {
			for _, l := range lists {
				fit.Wrong(x, root, l)
				fit.Solution(x, root, l)
				fit.Needed(x, root, l)
			}
		}
	}
}

// 0.1: many names, in a row, and in a tree that grows wide.
func TestOfManyNames(t *testing.T) {
	names := letters(20000)
	row, tree := index.New(), index.New()
	var l []api.Pick
	for i, name := range names {
		l = append(l, at(name, i))
		for x, from := range map[*index.Index]int{row: i + 1, tree: i*6 + 1} {
			var needs []api.Need
			for j := min(from, len(names)); j < min(from+6, len(names)); j++ {
				if x == tree || j == i+1 {
					needs = append(needs, of(names[j], j, j+1))
				}
			}
			puts(t, x, api.Entry{Name: name, Body: body(t, pack(name, rel(i, needs...)))})
		}
	}
	root := []api.Need{of(names[0], 0, 1)}
	for _, x := range []*index.Index{row, tree} {
		isWrong(t, x, root, l, 0, "")
		isNeeded(t, x, root, l, names)
		isWrong(t, x, nil, l, 5, names[0])
		isWrong(t, x, nil, l[1:], 5, names[1])
		more := append(slices.Clone(l), at("αω", 5))
		isWrong(t, x, root, more, 3, "αω")
		puts(t, x, toEntry(t, "αω 5"))
		isWrong(t, x, root, more, 5, "αω")
		isNeeded(t, x, root, more, names)
	}
	for _, i := range []int{1, 2, 7, 9999, 19999} {
		less := slices.Delete(slices.Clone(l), i, i+1)
		isWrong(t, row, root, less, 4, names[i-1])
		isNeeded(t, row, root, less, names[:i+1])
		isWrong(t, tree, root, less, 4, names[(i-1)/6])
	}
}
