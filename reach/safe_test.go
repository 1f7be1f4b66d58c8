package reach_test

import (
	"math"
	"slices"
	"strings"
	"testing"
	"unsafe"

	"comprador/api"
	"comprador/index"
	"comprador/reach"
)

// noNames are names that may not be.
func noNames() []string {
	return []string{
		"", " ", "A", "1", "-", "1a", "-a", "a b", "a_", "a\x00", "\x00", "Ω", "é", "\xce", "a\xce", "\xff", "a\xff",
		"abcdefghijklm", "αβγδεζηθικλμν", strings.Repeat("a", 25), strings.Repeat("ω", 13), strings.Repeat("a", 9000), strings.Repeat("\xff", 1<<18),
	}
}

// within tells whether two texts share memory.
func within(a, b string) bool {
	at := uintptr(unsafe.Pointer(unsafe.StringData(a)))
	from := uintptr(unsafe.Pointer(unsafe.StringData(b)))
	return at < from+uintptr(len(b)) && from < at+uintptr(len(a))
}

// 0.5, 0.8: needs are not changed, nor read or written behind their lengths.
func TestNeedsStay(t *testing.T) {
	x := knows(t, entries("a:b", "b:c", "c:d;e f", "d:a", "x:y")...)
	for n := range 4 {
		was := append(asks("a c e")[:n], of("x", 5, 9), of("z", 7, 8))
		root := append(asks("a c e")[:n], of("x", 5, 9), of("z", 7, 8))[:n]
		for i := range root {
			root[i].In = append(slices.Clone(root[i].In), api.Span{Lo: -7, Hi: -7})[:len(root[i].In)]
		}
		names := [][]string{nil, {"a", "b", "c", "d", "e", "f"}}[min(n, 1)]
		tells(t, x, root, names, [][]string{nil, {"e", "f"}}[min(n, 1)])
		for i, want := range was {
			got := root[:n+2][i]
			if got.Name != want.Name || !slices.Equal(got.In, want.In) {
				t.Fatalf("the need %d became %v", i, got)
			}
			if l := got.In; i < n && l[:len(l)+1][len(l)] != (api.Span{Lo: -7, Hi: -7}) {
				t.Fatalf("what lies behind the set of %q became %v", got.Name, l[:len(l)+1])
			}
		}
	}
}

// 0.5: an index is not changed.
func TestIndexStays(t *testing.T) {
	l := entries("a:b", "b:c", "c:d;e f", "d!", "x:y")
	x := knows(t, l...)
	for range 3 {
		tells(t, x, asks("a m"), strings.Fields("a b c d e f m"), strings.Fields("e f m"))
		if got := x.Names(); !slices.Equal(got, strings.Fields("a b c d x")) {
			t.Fatalf("the names that are known are %q", got)
		}
		for _, e := range l {
			m, ok := x.Get(e.Name)
			if ok != (e.Name != "d") || ok && bytesOf(m) != string(e.Body) {
				t.Fatalf("%q became %v, %v", e.Name, m, ok)
			}
		}
	}
	y := index.New()
	tells(t, y, asks("a"), []string{"a"}, []string{"a"})
	if y.Len() != 0 || y.Has("a") {
		t.Error("what was asked for became known")
	}
}

// 0.5: what is told is new memory, each time, and stays as it was told.
func TestAnswersAreNew(t *testing.T) {
	x := knows(t, entries("a:b", "b:c d", "d:e")...)
	for _, z := range []*index.Index{x, x.Clone()} {
		names, missing := reach.Names(z, asks("a")), reach.Missing(z, asks("a"))
		for _, l := range [][]string{reach.Names(z, asks("a")), reach.Missing(z, asks("a"))} {
			for i := range l[:cap(l)] {
				l[:cap(l)][i] = "spoilt"
			}
		}
		puts(t, z, entry("c:f"))
		if !slices.Equal(names, strings.Fields("a b c d e")) || !slices.Equal(missing, strings.Fields("c e")) {
			t.Errorf("what was told became %q, %q", names, missing)
		}
		tells(t, z, asks("a"), strings.Fields("a b c d e f"), strings.Fields("e f"))
	}
}

// 0.5: the texts, too, that are told share no memory with needs, nor with one another.
func TestTextsAreNew(t *testing.T) {
	long := strings.Repeat("abc", 4)
	root := []api.Need{of(long[:4]), of(long[1:5]), of(long[2:6])}
	body := []byte(bytesOf(pack("abca", rel(0, named("bcab", "cabc", "d")...))))
	x := knows(t, api.Entry{Name: "abca", Body: body})
	var texts []string
	for _, z := range []*index.Index{x, nil} {
		for range 2 {
			texts = append(texts, reach.Names(z, root)...)
			texts = append(texts, reach.Missing(z, root)...)
		}
	}
	for i, s := range texts {
		if within(s, long) {
			t.Errorf("%q is in the memory of what was given", s)
		}
		for _, other := range texts[:i] {
			if within(s, other) {
				t.Errorf("two texts %q share memory", s)
			}
		}
	}
}

// 0.8: empty lists are none.
func TestOfNoneIsNil(t *testing.T) {
	for _, x := range []*index.Index{nil, {}, index.New(), knows(t, entries("a:b", "b")...)} {
		for _, root := range [][]api.Need{nil, {}, asks("a b")[:0]} {
			if l := reach.Names(x, root); l != nil {
				t.Errorf("the names are %#v", l)
			}
			if l := reach.Missing(x, root); l != nil || !reach.Whole(x, root) {
				t.Errorf("there are missing %#v", l)
			}
		}
	}
	if l := reach.Missing(knows(t, entries("a:b", "b")...), asks("a")); l != nil {
		t.Errorf("of a whole one there are missing %#v", l)
	}
}

// 0.1: no call panics, or goes on for ever, of needs that may not be, either.
func TestAnyArguments(t *testing.T) {
	var roots [][]api.Need
	for _, name := range noNames() {
		roots = append(roots, named(name), named(name, name), named("a", name, "b"), named(name, "b", "a"))
	}
	roots = append(roots, named("a", "a"), named("b", "a"), named("a", "b", "a", "b"), named(letters(7)...), named(letters(5000)...), slices.Repeat(named("a", "b", "c"), 3000), named(noNames()...))
	roots = append(roots, []api.Need{of("a", 5, 5)}, []api.Need{of("a", 9, 5), of("b", -1, 0)}, []api.Need{of("a", math.MinInt, math.MaxInt)}, []api.Need{of("a", 5, 9, 1, 2)}, []api.Need{{Name: "a", In: make([]api.Span, 7)}}, make([]api.Need, 100))
	for _, x := range []*index.Index{nil, {}, index.New(), knows(t, entries("a:b", "b:a c;d", "d!", "e=a:b")...)} {
		for _, root := range roots {
			reach.Names(x, root)
			reach.Missing(x, root)
			reach.Whole(x, root)
		}
	}
}

// 0.1: many names, in a row, and in a tree that grows wide.
func TestOfManyNames(t *testing.T) {
	names := letters(20000)
	row, tree := index.New(), index.New()
	for i, name := range names[:len(names)-1] {
		puts(t, row, entry(name+":"+names[i+1]))
		m := pack(name)
		for j := range 8 {
			from := min(i*48+j*6+1, len(names))
			m.Releases = append(m.Releases, rel(j, named(names[from:min(from+6, len(names))]...)...))
		}
		puts(t, tree, api.Entry{Name: name, Body: []byte(bytesOf(m))})
	}
	last := names[len(names)-1:]
	for _, x := range []*index.Index{row, tree} {
		tells(t, x, named(names[0]), names, last)
		puts(t, x, entry(last[0]+":"+names[0]))
		tells(t, x, named(names[0]), names, nil)
	}
	tells(t, row, named(last...), names, nil)
	tells(t, tree, named(last...), names, nil)
}
