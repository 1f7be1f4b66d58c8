package plain_test

import (
	"math"
	"slices"
	"strings"
	"testing"
	"unsafe"

	"comprador/api"
	"comprador/index"
	"comprador/plain"
)

// noNames are names that may not be.
func noNames() []string {
	return []string{
		"", " ", "A", "1", "-", "1a", "-a", "a b", "a_", "a\x00", "\x00", "Ω", "é", "\xce", "a\xce", "\xff", "a\xff",
		"abcdefghijklm", "αβγδεζηθικλμν", strings.Repeat("a", 25), strings.Repeat("ω", 13), strings.Repeat("a", 9000), strings.Repeat("\xff", 1<<18),
	}
}

// within tells whether some bytes share memory with others.
func within(at, size, from, most uintptr) bool {
	return at < from+most && from < at+size
}

// texts tells whether two texts share memory.
func texts(a, b string) bool {
	return within(uintptr(unsafe.Pointer(unsafe.StringData(a))), uintptr(len(a)), uintptr(unsafe.Pointer(unsafe.StringData(b))), uintptr(len(b)))
}

// long are needs and picks, with others behind their lengths, and behind those of the needs' sets.
func long(root []api.Need, l []api.Pick) ([]api.Need, []api.Pick) {
	var needs []api.Need
	for _, n := range root {
		needs = append(needs, api.Need{Name: n.Name, In: append(slices.Clone(n.In), behindSpan)[:len(n.In)]})
	}
	return append(needs, behindNeed)[:len(root)], append(slices.Clone(l), behindPick)[:len(l)]
}

// What lies behind lengths.
var (
	behindSpan = api.Span{Lo: 0, Hi: top}
	behindNeed = api.Need{Name: "zzz"}
	behindPick = api.Pick{Name: "zz", Ver: 1}
)

// 0.5, 0.8: what is given is not changed, nor read or written behind its length.
func TestGivenListsStay(t *testing.T) {
	x := toIndex(t, "a 1(b,zz) 2(b13); b 1 2 3(a1); c 1; zz 1(c!)")
	for _, root := range []string{"", "a", "a2 b!", "a b1 c", "c13", "d", "a1 b3"} {
		for _, l := range []string{"", "a1", "a2 b1", "a2 b2", "a1 b3 c1", "b1", "c1", "d1", "a1 b1 zz1"} {
			needs, picks := long(toNeeds(root), toPicks(l))
			isTold(t, x, needs, much, modelOf(x, toNeeds(root)).search())
			next, _ := plain.Next(x, toNeeds(root), toPicks(l))
			isNext(t, x, needs, picks, next)
			for _, name := range strings.Fields("a b c zz zzz") {
				isAsked(t, x, needs, picks, name, plain.Asked(x, toNeeds(root), toPicks(l), name))
			}
			for i, want := range append(toNeeds(root), behindNeed) {
				got := needs[:len(needs)+1][i]
				if got.Name != want.Name || !slices.Equal(got.In, want.In) {
					t.Fatalf("the need %d became %v", i, got)
				}
				if i < len(needs) && got.In[:len(got.In)+1][len(got.In)] != behindSpan {
					t.Fatalf("what lies behind the set of %q became %v", got.Name, got.In[:len(got.In)+1])
				}
			}
			if got := picks[:len(picks)+1]; !slices.Equal(got, append(toPicks(l), behindPick)) {
				t.Fatalf("the picks became %v", got)
			}
		}
	}
}

// 0.5: an index is not changed.
func TestIndexStays(t *testing.T) {
	const known = "a 1(b,c) 2(b2); b 1(d); c! 1; e=a 1"
	x, y := toIndex(t, known), toIndex(t, known)
	for range 3 {
		for _, root := range []string{"", "a", "a b", "a f", "c", "a b1"} {
			asModel(t, x, toNeeds(root))
			plain.Asked(x, toNeeds(root), toPicks("a1 b1 c1"), "c")
			plain.Next(x, toNeeds(root), toPicks("a1 b1 c1"))
		}
		if !slices.Equal(x.Names(), y.Names()) {
			t.Fatalf("the names that are known are %q", x.Names())
		}
		for _, name := range y.Names() {
			got, ok := x.Get(name)
			want, also := y.Get(name)
			if ok != also || ok && !slices.Equal(body(t, got), body(t, want)) {
				t.Fatalf("%q became %v, %v", name, got, ok)
			}
		}
	}
}

// 0.5: what is told is new memory, each time, and stays as it was told.
func TestAnswersAreNew(t *testing.T) {
	x := toIndex(t, "a 1(b12,c); b 1 2; c 1")
	root, l := toNeeds("a b"), toPicks("a1")
	picks, _, _ := plain.Solve(x, root, much)
	in := plain.Asked(x, root, l, "b")
	one := plain.Asked(x, toNeeds("a1"), nil, "a")
	all := plain.Asked(x, root, l, "d")
	more, _, _ := plain.Solve(x, root, much)
	for i := range more[:cap(more)] {
		more[:cap(more)][i] = at("spoilt", 0)
	}
	for _, name := range strings.Fields("a b c d") {
		spoilt := plain.Asked(x, root, l, name)
		for i := range spoilt[:cap(spoilt)] {
			spoilt[:cap(spoilt)][i] = api.Span{}
		}
	}
	root[0].Name, root[0].In[0], root[1].In[0], l[0].Name = "x", api.Span{}, api.Span{}, "x"
	if !slices.Equal(picks, toPicks("a1 b2 c1")) || !slices.Equal(in, toNeed("b12").In) || !slices.Equal(one, toNeed("a1").In) || !slices.Equal(all, toNeed("d").In) {
		t.Errorf("what was told became %v, %v, %v, %v", picks, in, one, all)
	}
	isTold(t, x, toNeeds("a b"), much, toTold("found a1 b2 c1"))
	isAsked(t, x, toNeeds("a b"), toPicks("a1"), "b", toNeed("b12").In)
	isAsked(t, x, toNeeds("a b"), toPicks("a1"), "d", toNeed("d").In)
}

// 0.5: the set of a need that was given is not told.
func TestSetsAreNew(t *testing.T) {
	x := toIndex(t, "a 1")
	for _, s := range []string{"a", "a1", "a135"} {
		root := toNeeds(s)
		got := plain.Asked(x, root, toPicks("a1"), "a")
		size := unsafe.Sizeof(api.Span{})
		if within(uintptr(unsafe.Pointer(&got[0])), uintptr(cap(got))*size, uintptr(unsafe.Pointer(&root[0].In[0])), uintptr(cap(root[0].In))*size) {
			t.Errorf("what is asked by %q is in the memory of what was given", s)
		}
	}
}

// 0.5: the texts, too, that are told share no memory with what was given, nor with one another.
func TestTextsAreNew(t *testing.T) {
	text := strings.Repeat("abc", 4)
	root := []api.Need{of(text[:4], 0, top), of(text[1:5], 0, top)}
	good := knows(t, pack("abca", rel(1, of("cabc", 0, top))), pack("bcab", rel(1)), pack("cabc", rel(1)))
	spoilt := knows(t, pack("abca", rel(1)))
	spoilt.Put("bcab", nil)
	lacks := knows(t, pack("abca", rel(1, of("cabc", 0, top))), pack("bcab", rel(1)))
	var l []string
	for range 2 {
		for _, x := range []*index.Index{nil, good, spoilt, lacks} {
			picks, _, name := plain.Solve(x, root, much)
			if name != "" {
				l = append(l, name)
			}
			for _, p := range picks {
				l = append(l, p.Name)
			}
			next, _ := plain.Next(x, root, nil)
			one, _ := plain.Next(x, root, []api.Pick{at(text[:4], 1), at(text[1:5], 1)})
			l = append(l, next, one)
		}
	}
	l = slices.DeleteFunc(l, func(s string) bool { return s == "" })
	if len(l) != 2*(6+4+2) {
		t.Fatalf("there are the texts %q", l)
	}
	for i, s := range l {
		if texts(s, text) {
			t.Errorf("%q is in the memory of what was given", s)
		}
		for _, other := range l[:i] {
			if texts(s, other) {
				t.Errorf("two texts %q share memory", s)
			}
		}
	}
}

// 0.3, 0.8: no picks, and no spans, are none.
func TestOfNoneIsNil(t *testing.T) {
	for _, x := range []*index.Index{nil, {}, index.New(), toIndex(t, "a 1(b); b! 1; c 1; d")} {
		for _, root := range [][]api.Need{nil, {}, toNeeds("a b")[:0], toNeeds("b"), toNeeds("d"), toNeeds("e"), toNeeds("c!")} {
			for _, fuel := range []int{0, much} {
				if l, kind, _ := plain.Solve(x, root, fuel); l != nil {
					t.Errorf("asked %v, told are %#v, %d", root, l, kind)
				}
			}
		}
		if l, kind, _ := plain.Solve(x, toNeeds("c"), 0); l != nil {
			t.Errorf("told are %#v, %d", l, kind)
		}
		for _, root := range [][]api.Need{toNeeds("c!"), {{Name: "c", In: []api.Span{}}}} {
			if in := plain.Asked(x, root, nil, "c"); in != nil {
				t.Errorf("asked %v, %#v is asked", root, in)
			}
		}
	}
}

// 0.1: no call panics, or goes on for ever, of needs and picks that may not be, either.
func TestAnyArguments(t *testing.T) {
	roots := [][]api.Need{nil, toNeeds("a"), toNeeds("a b"), toNeeds("a a"), toNeeds("b a b a"), make([]api.Need, 100), slices.Repeat(toNeeds("a b1"), 1000), slices.Repeat(toNeeds("a b c"), 1000)}
	roots = append(roots, []api.Need{of("a", 5, 5)}, []api.Need{of("a", 9, 5), of("b", -1, 0)}, []api.Need{of("a", math.MinInt, math.MaxInt)}, []api.Need{of("a", 5, 9, 1, 2)}, []api.Need{{Name: "a", In: make([]api.Span, 7)}}, []api.Need{of("a", 0, 9, 0, 9, 0, 9), of("a", 1, 2, 0, 3)})
	lists := [][]api.Pick{nil, toPicks("a1"), toPicks("a1 b1"), toPicks("a1 a1"), toPicks("b1 a1 b1"), make([]api.Pick, 100), slices.Repeat(toPicks("a1 b1 c2"), 1000), slices.Repeat(toPicks("c1 b1 a1"), 1000)}
	for _, ver := range []int{math.MinInt, -1, 0, top - 1, top, math.MaxInt} {
		lists = append(lists, []api.Pick{at("a", ver)}, []api.Pick{at("a", 1), at("b", ver)}, []api.Pick{at("c", ver), at("a", ver)})
	}
	for _, name := range noNames() {
		roots = append(roots, []api.Need{of(name, 0, top)}, []api.Need{of("a", 0, top), of(name, 1, 2), of("b")})
		lists = append(lists, []api.Pick{at(name, 1)}, []api.Pick{at(name, 1), at("a", 1), at(name, -1)})
	}
	for _, x := range []*index.Index{nil, {}, index.New(), toIndex(t, "a 1(b) 2(b1,c); b 1(a,b,c) 2; c! 1; e=a 1(b)"), toIndex(t, "a 1(b) 2(b1,c); b 1(a,b,c) 2; c 1(a1,b2)")} {
		for _, root := range roots {
			for _, fuel := range []int{math.MinInt, -1, 0, 1, 2, much, math.MaxInt} {
				plain.Solve(x, root, fuel)
			}
			for _, l := range lists {
				plain.Asked(x, root, l, "b")
				plain.Next(x, root, l)
			}
		}
		for _, name := range noNames() {
			isAsked(t, x, toNeeds("a1 b"), toPicks("a1"), name, toNeed("a").In)
		}
	}
}

// 0.1: many names, in a row, and in a tree that grows wide.
func TestOfManyNames(t *testing.T) {
	names := letters(20000)
	row, tree := index.New(), index.New()
	var l []api.Pick
	for i, name := range names {
		l = append(l, at(name, i))
		for x, from := range map[*index.Index]int{row: i + 1, tree: i*6 + 1} {
			var needs []api.Need
			for j := min(from, len(names)); j < min(from+6, len(names)); j++ {
				if x == tree || j == i+1 {
					needs = append(needs, of(names[j], j, j+1))
				}
			}
			puts(t, x, api.Entry{Name: name, Body: body(t, pack(name, rel(i, needs...)))})
		}
	}
	root := []api.Need{of(names[0], 0, 1)}
	for _, x := range []*index.Index{row, tree} {
		isTold(t, x, root, len(l), told{kind: api.Found, picks: l})
		isTold(t, x, root, len(l)-1, toTold("spent"))
		isNext(t, x, root, l, "")
		isNext(t, x, root, l[:7], names[7])
		isAsked(t, x, root, l, names[19999], []api.Span{{Lo: 19999, Hi: 20000}})
	}
	// The last name of the row is another version's: all that was picked is taken back.
	back := row.Clone()
	first := names[0] + "-"
	puts(t, back, api.Entry{Name: first, Body: body(t, pack(first, rel(1), rel(2, of(names[19999], 5, 6))))})
	isTold(t, back, []api.Need{of(names[0], 0, 1), of(first, 1, 3)}, much, told{kind: api.Found, picks: slices.Insert(slices.Clone(l), 1, at(first, 1))})
	// To the first version of the first name, and there is none.
	isTold(t, back, []api.Need{of(names[0], 0, 1), of(first, 2, 3)}, much, toTold("nothing"))
}

// 0.1: many versions that are tried.
func TestOfManyTries(t *testing.T) {
	var l []api.Manifest
	for i := range 6 {
		m := pack(string(rune('a' + i)))
		for ver := range 8 {
			m.Releases = append(m.Releases, rel(ver, of("z", i, i+1, 8, 9)))
		}
		l = append(l, m)
	}
	l[5].Releases = nil
	for ver := range 8 {
		l[5].Releases = append(l[5].Releases, rel(ver, of("z", 6, 7)))
	}
	x := knows(t, append(l, pack("z", rel(8)))...)
	tried := 0
	for range 6 {
		tried = 8 * (tried + 1)
	}
	root := toNeeds("a b c d e f")
	isTold(t, x, root, tried, toTold("nothing"))
	isTold(t, x, root, tried-1, toTold("spent"))
}
