package fact_test

import (
	"math"
	"slices"
	"strings"
	"testing"
	"unsafe"

	"comprador/api"
	"comprador/fact"
	"comprador/index"
)

// noNames are names that may not be.
func noNames() []string {
	return []string{
		"", " ", "A", "1", "-", "1a", "-a", "a b", "a_", "a\x00", "\x00", "Ω", "é", "\xce", "a\xce", "\xff", "a\xff",
		"abcdefghijklm", "αβγδεζηθικλμν", strings.Repeat("a", 25), strings.Repeat("ω", 13), strings.Repeat("a", 9000), strings.Repeat("\xff", 1<<18),
	}
}

// within tells whether two texts share memory.
func within(a, b string) bool {
	at := uintptr(unsafe.Pointer(unsafe.StringData(a)))
	from := uintptr(unsafe.Pointer(unsafe.StringData(b)))
	return at < from+uintptr(len(b)) && from < at+uintptr(len(a))
}

// What lies behind lengths.
var (
	behindSpan = api.Span{Lo: 0, Hi: top}
	behindNeed = of("zzz", 1, 2)
)

// long are needs, with others behind their length, and spans behind those of their sets.
func long(root []api.Need) []api.Need {
	var needs []api.Need
	for _, n := range root {
		needs = append(needs, api.Need{Name: n.Name, In: append(slices.Clone(n.In), behindSpan)[:len(n.In)]})
	}
	return append(needs, behindNeed)[:len(root)]
}

// stays fails, if needs that were made long, or what lies behind their lengths, were changed.
func stays(t *testing.T, needs, was []api.Need) {
	t.Helper()
	for i, want := range append(slices.Clone(was), behindNeed) {
		got := needs[:len(was)+1][i]
		if got.Name != want.Name || !slices.Equal(got.In, want.In) {
			t.Fatalf("the need %d became %v", i, got)
		}
		if i < len(was) && got.In[:len(got.In)+1][len(got.In)] != behindSpan {
			t.Fatalf("what lies behind the set of %q became %v", got.Name, got.In[:len(got.In)+1])
		}
	}
}

// spoil writes into all memory that a fact has.
func spoil(c []api.Term) {
	for _, x := range c[:cap(c)] {
		for i := range x.In[:cap(x.In)] {
			x.In[:cap(x.In)][i] = api.Span{Lo: -77, Hi: -77}
		}
	}
	for i := range c[:cap(c)] {
		c[:cap(c)][i] = api.Term{Name: "spoilt"}
	}
}

// spoilAll writes into all memory that facts, and their steps, have.
func spoilAll(facts [][]api.Term, steps []api.Step) {
	for i, c := range facts[:cap(facts)] {
		spoil(c)
		facts[:cap(facts)][i] = list(api.Term{Name: "spoilt"})
	}
	for i := range steps[:cap(steps)] {
		steps[:cap(steps)][i] = api.Step{Name: "spoilt"}
	}
}

// deep is a fact in memory of its own.
func deep(c []api.Term) []api.Term {
	l := slices.Clone(c)
	for i := range l {
		l[i].In = slices.Clone(l[i].In)
	}
	return l
}

// deepAll are facts in memory of their own.
func deepAll(facts [][]api.Term) [][]api.Term {
	var l [][]api.Term
	for _, c := range facts {
		l = append(l, deep(c))
	}
	return l
}

// asked is what Asked tells.
func asked(root []api.Need, name string) []api.Term {
	c, _ := fact.Asked(root, name)
	return c
}

// 0.5, 0.8: what is given is not changed, nor read or written behind its length.
func TestGivenNeedsStay(t *testing.T) {
	for _, s := range []string{"", "a", "a1", "a!", "a1 b!", "a b13 c", "b! c0", "a1 b2 c3 d4 e5 f6"} {
		was, needs := toNeeds(s), long(toNeeds(s))
		want, by := fact.Root(was)
		for range 2 {
			facts, steps := fact.Root(needs)
			are(t, "Root of "+s, facts, steps, want, by)
			spoilAll(facts, steps)
			stays(t, needs, was)
			for _, name := range strings.Fields("a b c d zz zzz") {
				c, ok := fact.Asked(needs, name)
				wantC, wantOK := fact.Asked(was, name)
				is(t, "Asked of "+s+", "+name, c, ok, wantC, wantOK)
				spoil(c)
				stays(t, needs, was)
			}
		}
	}
}

// 0.5: an index is not changed, whatever becomes of what was told of it.
func TestIndexStays(t *testing.T) {
	const known = "a 1(a2,b,c) 2(b2,c!); b 1(a) 2; c! 1; d; e=a 1"
	x, y := toIndex(t, known), toIndex(t, known)
	for range 3 {
		for _, name := range strings.Fields("a b c d e f") {
			facts, steps := fact.All(x, name)
			spoilAll(facts, steps)
			c, _ := fact.Released(x, name)
			spoil(c)
			for ver := range 3 {
				c, _ := fact.Needed(x, name, ver, "b")
				spoil(c)
			}
		}
		if !slices.Equal(x.Names(), y.Names()) {
			t.Fatalf("the names that are known are %q", x.Names())
		}
		for _, name := range y.Names() {
			got, ok := x.Get(name)
			want, also := y.Get(name)
			if ok != also || ok && !slices.Equal(body(t, got), body(t, want)) {
				t.Fatalf("%q became %v, %v", name, got, ok)
			}
		}
	}
}

// 0.5: what is told is new memory, each time, and stays as it was told.
func TestAnswersAreNew(t *testing.T) {
	x := toIndex(t, "b 1(a,b2,c13) 2(a2); c 1 2")
	root := toNeeds("a b13 c2")
	for _, f := range []func() []api.Term{
		func() []api.Term { return asked(root, "a") },
		func() []api.Term { return asked(root, "b") },
		func() []api.Term { c, _ := fact.Released(x, "b"); return c },
		func() []api.Term { c, _ := fact.Needed(x, "b", 1, "a"); return c },
		func() []api.Term { c, _ := fact.Needed(x, "b", 1, "b"); return c },
		func() []api.Term { c, _ := fact.Needed(x, "b", 1, "c"); return c },
	} {
		first := f()
		was := deep(first)
		spoil(f())
		if !same(first, was) {
			t.Errorf("an answer %v became %v, as another one was changed", was, first)
		}
		spoil(first)
		if got := f(); !same(got, was) {
			t.Errorf("behind a change of an answer %v is told, not %v", got, was)
		}
	}
	for _, f := range []func() ([][]api.Term, []api.Step){
		func() ([][]api.Term, []api.Step) { return fact.Root(root) },
		func() ([][]api.Term, []api.Step) { return fact.All(x, "b") },
		func() ([][]api.Term, []api.Step) { return fact.All(x, "c") },
	} {
		facts, steps := f()
		was, by := deepAll(facts), slices.Clone(steps)
		spoilAll(f())
		are(t, "an answer, as another one was changed,", facts, steps, was, by)
		spoilAll(facts, steps)
		facts, steps = f()
		are(t, "an answer, behind a change of the first one,", facts, steps, was, by)
	}
}

// The language's rule 7: no two lists of one answer share memory.
func TestListsAreApart(t *testing.T) {
	x := knows(t, full())
	for _, f := range []func() ([][]api.Term, []api.Step){
		func() ([][]api.Term, []api.Step) { return fact.Root(toNeeds("a b b13 c2 c2")) },
		func() ([][]api.Term, []api.Step) { return fact.All(x, "a") },
	} {
		facts, steps := f()
		was, by := deepAll(facts), slices.Clone(steps)
		for i, c := range facts {
			for j, x := range c {
				for k := range x.In[:cap(x.In)] {
					x.In[:cap(x.In)][k] = api.Span{Lo: -77, Hi: -77}
				}
				if !same(c[j+1:], was[i][j+1:]) {
					t.Fatalf("two sets of the fact %d share memory", i)
				}
			}
			spoil(c)
			if !slices.EqualFunc(facts[i+1:], was[i+1:], same) || !slices.Equal(steps, by) {
				t.Fatalf("as the fact %d was changed, others became %s, %s", i, brief(facts[i+1:]), brief(steps))
			}
		}
	}
}

// 0.5: the texts, too, that are told share no memory with what was given, nor with one another.
func TestTextsAreNew(t *testing.T) {
	text := strings.Repeat("abc", 4)
	one, two := text[:4], text[1:5]
	root := []api.Need{of(one, 0, 5), of(two, 0, top)}
	x := knows(t, pack("abca", rel(1, of("abca", 2, 3), of("bcab", 1, 2)), rel(2, of("bcab", 1, 2))))
	var texts []string
	note := func(facts [][]api.Term, steps []api.Step) {
		for _, c := range facts {
			for _, t := range c {
				texts = append(texts, t.Name)
			}
		}
		for _, s := range steps {
			texts = append(texts, s.Name)
			if s.To != "" {
				texts = append(texts, s.To)
			}
		}
	}
	for range 2 {
		note(fact.Root(root))
		note(fact.All(x, one))
		released, _ := fact.Released(x, one)
		needed, _ := fact.Needed(x, one, 1, one)
		other, _ := fact.Needed(x, one, 1, two)
		note([][]api.Term{asked(root, one), asked(root, two), released, needed, other}, nil)
	}
	if len(texts) != 2*(4+6+7+6) {
		t.Fatalf("there are %d texts", len(texts))
	}
	for i, s := range texts {
		if within(s, text) {
			t.Errorf("%q is in the memory of what was given", s)
		}
		for _, other := range texts[:i] {
			if within(s, other) {
				t.Errorf("two texts %q share memory", s)
			}
		}
	}
}

// The language's rule 5: each time the same is told.
func TestToldAgain(t *testing.T) {
	x := knows(t, full())
	want, by := fact.All(x, "a")
	for range 50 {
		facts, steps := fact.All(x, "a")
		are(t, "All", facts, steps, want, by)
	}
}

// 0.1: no call panics, or goes on for ever, of needs that may not be, either.
func TestAnyArguments(t *testing.T) {
	roots := [][]api.Need{nil, toNeeds("a"), toNeeds("a a"), toNeeds("b a b a"), make([]api.Need, 100), slices.Repeat(toNeeds("a b1 c!"), 1000)}
	ends := []int{math.MinInt, -1, 0, 1, top - 1, top, top + 1, math.MaxInt}
	for _, lo := range ends {
		for _, hi := range ends {
			roots = append(roots, []api.Need{of("a", lo, hi)}, []api.Need{of("a", lo, hi, 5, 9), of("", 5, 9, lo, hi), of("b", lo, hi, lo, hi)})
		}
	}
	roots = append(roots, []api.Need{{Name: "a", In: make([]api.Span, 1000)}}, []api.Need{{Name: "a", In: slices.Repeat([]api.Span{{Lo: 5, Hi: 9}, {Lo: 1, Hi: 3}}, 1000)}})
	names := append(noNames(), "a", "b", "c", "d", "ω")
	for _, name := range noNames() {
		roots = append(roots, []api.Need{of(name, 0, top)}, []api.Need{of("a", 0, top), of(name, 1, 2), of("b")})
	}
	for _, root := range roots {
		fact.Root(root)
		for _, name := range names {
			fact.Asked(root, name)
		}
	}
	for _, x := range []*index.Index{nil, {}, index.New(), toIndex(t, "a 1(b) 2(b1,c); b 1(a,b,c) 2; c! 1; d=a 1(b)"), knows(t, full())} {
		for i, name := range names {
			got, ok := fact.Released(x, name)
			if i < len(noNames()) {
				is(t, "Released of a name that may not be", got, ok, nil, false)
			}
			fact.All(x, name)
			for _, ver := range ends {
				for _, to := range names {
					fact.Needed(x, name, ver, to)
				}
			}
		}
	}
}
