package judge_test

import (
	"math"
	"slices"
	"strings"
	"testing"
	"unsafe"

	"comprador/api"
	"comprador/index"
	"comprador/judge"
)

// What lies behind lengths: with it other clashes would be told.
var (
	behindSpan = api.Span{Lo: 0, Hi: top}
	behindNeed = api.Need{Name: "zzz", In: []api.Span{{Lo: 1, Hi: 2}}}
)

// behindSteps make of each proof another one.
func behindSteps() []api.Step {
	return []api.Step{asked("zzz"), joined("zzz", 0, 0)}
}

// longNeeds are needs, with others behind their length, and spans behind those of their sets.
func longNeeds(root []api.Need) []api.Need {
	var needs []api.Need
	for _, n := range root {
		needs = append(needs, api.Need{Name: n.Name, In: append(slices.Clone(n.In), behindSpan)[:len(n.In)]})
	}
	return append(needs, behindNeed)[:len(root)]
}

// longSteps are steps, with others behind their length.
func longSteps(l []api.Step) []api.Step {
	return append(slices.Clone(l), behindSteps()...)[:len(l)]
}

// stay fails, if needs and steps that were made long, or what lies behind their lengths, were changed.
func stay(t *testing.T, needs, wasNeeds []api.Need, l, was []api.Step) {
	t.Helper()
	for i, want := range append(slices.Clone(wasNeeds), behindNeed) {
		got := needs[:len(wasNeeds)+1][i]
		if got.Name != want.Name || !slices.Equal(got.In, want.In) {
			t.Fatalf("the need %d became %v", i, got)
		}
		if i < len(wasNeeds) && got.In[:len(got.In)+1][len(got.In)] != behindSpan {
			t.Fatalf("what lies behind the set of %q became %v", got.Name, got.In[:len(got.In)+1])
		}
	}
	if long := append(slices.Clone(was), behindSteps()...); !slices.Equal(l[:len(was)+2], long) {
		t.Fatalf("the steps became %s", brief(l[:len(was)+2]))
	}
}

// spoil writes into all memory that a clash has.
func spoil(c []api.Term) {
	for _, x := range c[:cap(c)] {
		for i := range x.In[:cap(x.In)] {
			x.In[:cap(x.In)][i] = api.Span{Lo: -77, Hi: -77}
		}
	}
	for i := range c[:cap(c)] {
		c[:cap(c)][i] = api.Term{Name: "spoilt"}
	}
}

// spoilAll writes into all memory that clashes have.
func spoilAll(l [][]api.Term) {
	for i, c := range l[:cap(l)] {
		spoil(c)
		l[:cap(l)][i] = []api.Term{{Name: "spoilt"}}
	}
}

// cases are what is known, needs, and proofs: with each kind of step, with the same steps twice, accepted, wrong, and neither.
func cases() [][3]string {
	return [][3]string{
		{"a", "a", "asked a; released a; joined a 0 1"},
		{"a 1(b2,γ13); b 1 2; γ! 2", "a b1", "asked b; needed a1 b; joined b 0 1; released a; joined a 2 3; asked a; joined a 4 5"},
		{"a 1(b2,γ13); b 1 2; γ! 2", "a2 b13 γ!", "asked a; asked a; asked b; asked γ; released a; released a; released b; released γ; needed a1 b; needed a1 b; needed a1 γ"},
		{"a 1(b2,γ13) 3(b1); b 1(γ1) 2", "a13 b", "needed a1 b; needed a3 b; joined a 0 1; joined a 1 0; joined a 0 0; joined b 2 4; needed a1 γ; needed b1 γ; joined γ 6 7; joined a 5 8; joined a 9 8"},
		{"a 1(b2); b 1 2", "a", "asked a; needed a1 b; released b; joined b 1 2; asked b; released a"},
		{"", "a! b", "asked a; asked b; asked a"},
		{"", "", "asked a"},
	}
}

// 0.5, 0.8: what is given is not changed, nor read or written behind its length.
func TestGivenStays(t *testing.T) {
	for _, c := range cases() {
		x, root, l := toIndex(t, c[0]), toNeeds(c[1]), toProof(c[2])
		needs, steps := longNeeds(root), longSteps(l)
		want, count := judge.Clashes(x, root, l)
		if last, ok := judge.Last(x, root, l); ok && !same(last, want[count-1]) {
			t.Fatalf("Last of %s = %v", c[2], last)
		}
		for range 2 {
			made(t, x, needs, steps, want)
			got, _ := judge.Clashes(x, needs, steps)
			spoilAll(got)
			last, _ := judge.Last(x, needs, steps)
			spoil(last)
			if judge.Accept(x, needs, steps) != judge.Accept(x, root, l) {
				t.Fatalf("what lies behind is read by Accept of %s", c[2])
			}
			stay(t, needs, root, steps, l)
		}
	}
}

// 0.5: an index is not changed, whatever becomes of what was told of it.
func TestIndexStays(t *testing.T) {
	for _, c := range cases() {
		x, y := toIndex(t, c[0]), toIndex(t, c[0])
		root, l := toNeeds(c[1]), toProof(c[2])
		for range 3 {
			got, _ := judge.Clashes(x, root, l)
			spoilAll(got)
			last, _ := judge.Last(x, root, l)
			spoil(last)
			judge.Accept(x, root, l)
		}
		if !slices.Equal(x.Names(), y.Names()) {
			t.Fatalf("the names that are known are %q", x.Names())
		}
		for _, name := range y.Names() {
			got, ok := x.Get(name)
			want, also := y.Get(name)
			if ok != also || ok && !slices.Equal(body(t, got), body(t, want)) {
				t.Fatalf("%q became %v, %v", name, got, ok)
			}
		}
	}
}

// 0.5: what is told is new memory, each time, and stays as it was told, whatever becomes of what was given.
func TestAnswersAreNew(t *testing.T) {
	for _, c := range cases() {
		x, root, l := toIndex(t, c[0]), toNeeds(c[1]), toProof(c[2])
		want := ofMasks(allMasks(x, root, l))
		given, steps := toNeeds(c[1]), slices.Clone(l)
		first, _ := judge.Clashes(x, given, steps)
		last, _ := judge.Last(x, given, steps)
		second, _ := judge.Clashes(x, given, steps)
		spoilAll(second)
		for _, n := range given {
			for i := range n.In {
				n.In[i] = api.Span{Lo: 7, Hi: 8}
			}
		}
		for i := range steps {
			steps[i] = api.Step{}
		}
		if !slices.EqualFunc(first, want, same) || len(want) == len(l) && !same(last, want[len(l)-1]) {
			t.Fatalf("what was told of %s became %s, %s", c[2], brief(first), brief(last))
		}
		spoil(last)
		spoilAll(first)
		made(t, x, root, l, want)
	}
}

// The language's rule 7: no two lists of one answer share memory.
func TestListsAreApart(t *testing.T) {
	for _, c := range cases() {
		x, root, l := toIndex(t, c[0]), toNeeds(c[1]), toProof(c[2])
		got, _ := judge.Clashes(x, root, l)
		var was [][]api.Term
		for _, c := range got {
			was = append(was, deep(c))
		}
		for i, c := range got {
			for j, x := range c {
				for k := range x.In[:cap(x.In)] {
					x.In[:cap(x.In)][k] = api.Span{Lo: -77, Hi: -77}
				}
				if !same(c[j+1:], was[i][j+1:]) {
					t.Fatalf("two sets of the clash %d share memory", i)
				}
			}
			spoil(c)
			if !slices.EqualFunc(got[i+1:], was[i+1:], same) {
				t.Fatalf("as the clash %d was changed, others became %s", i, brief(got[i+1:]))
			}
		}
	}
}

// within tells whether two texts share memory.
func within(a, b string) bool {
	at := uintptr(unsafe.Pointer(unsafe.StringData(a)))
	from := uintptr(unsafe.Pointer(unsafe.StringData(b)))
	return at < from+uintptr(len(b)) && from < at+uintptr(len(a))
}

// 0.5: the texts, too, that are told share no memory with what was given, nor with one another.
func TestTextsAreNew(t *testing.T) {
	text := strings.Repeat("abc", 4)
	one, two := text[:4], text[1:5]
	x := toIndex(t, "abca 1(abca2,bcab1) 2(bcab); bcab 3")
	root := []api.Need{{Name: one, In: []api.Span{{Lo: 1, Hi: 2}}}, {Name: two, In: []api.Span{{Lo: 1, Hi: top}}}}
	l := []api.Step{asked(one), asked(two), released(one), released(two), needed(one, 1, one), needed(one, 1, two), needed(one, 2, two), joined(one, 0, 4), joined(two, 5, 3), joined(one, 6, 8), joined(one, 9, 9)}
	var texts []string
	for range 2 {
		got, count := judge.Clashes(x, root, l[:10])
		last, ok := judge.Last(x, root, l)
		if count != 10 || !ok {
			t.Fatalf("Clashes = %v, %d", got, count)
		}
		for _, c := range append(got, last) {
			for _, t := range c {
				texts = append(texts, t.Name)
			}
		}
	}
	if len(texts) < 20 {
		t.Fatalf("there are %d texts", len(texts))
	}
	for i, s := range texts {
		if within(s, text) {
			t.Errorf("%q is in the memory of what was given", s)
		}
		for _, other := range texts[:i] {
			if within(s, other) {
				t.Errorf("two texts %q share memory", s)
			}
		}
	}
}

// The language's rule 5: each time the same is told.
func TestToldAgain(t *testing.T) {
	for _, c := range cases() {
		x, root, l := toIndex(t, c[0]), toNeeds(c[1]), toProof(c[2])
		want, _ := judge.Clashes(x, root, l)
		for range 20 {
			made(t, x, root, l, want)
		}
	}
}

// 0.1: no call panics, or goes on for ever, of steps and needs that may not be, either; and such steps are never accepted.
func TestAnyArguments(t *testing.T) {
	ends := []int{math.MinInt, -1, 0, 1, top - 1, top, top + 1, math.MaxInt}
	roots := [][]api.Need{nil, toNeeds("a"), toNeeds("a a"), toNeeds("b a b a"), make([]api.Need, 100), slices.Repeat(toNeeds("a b1 c!"), 1000)}
	for _, lo := range ends {
		for _, hi := range ends {
			roots = append(roots, []api.Need{{Name: "a", In: []api.Span{{Lo: lo, Hi: hi}, {Lo: 5, Hi: 9}, {Lo: hi, Hi: lo}}}, {Name: "", In: []api.Span{{Lo: lo, Hi: hi}}}})
		}
	}
	for _, name := range []string{"", "A", "a b", "\xff", strings.Repeat("a", 9000)} {
		roots = append(roots, []api.Need{{Name: name, In: make([]api.Span, 1000)}})
	}
	var proofs [][]api.Step
	for _, c := range cases() {
		l := toProof(c[2])
		proofs = append(proofs, l, l[1:], l[:0], append(slices.Clone(l), api.Step{}))
		for i := range l {
			for _, s := range spoilt(l[i]) {
				other := slices.Clone(l)
				other[i] = s
				proofs = append(proofs, other)
			}
		}
	}
	proofs = append(proofs, make([]api.Step, 1000), make([]api.Step, most+1))
	indexes := []*index.Index{nil, {}, index.New(), toIndex(t, "a 1(b2,γ13); b 1 2; γ! 2")}
	for i, l := range proofs {
		for j, x := range indexes {
			some := roots[:2]
			if i%50 == j {
				some = roots
			}
			for _, root := range some {
				judge.Clashes(x, root, l)
				judge.Last(x, root, l)
				if judge.Accept(x, root, l) && !mayBe(l) {
					t.Fatalf("%s is accepted", brief(l))
				}
			}
		}
	}
}

// 0.3: of steps that may not be a proof nothing is told.
func TestOfStepsThatMayNotBe(t *testing.T) {
	x, root := toIndex(t, "a"), toNeeds("a")
	for _, l := range [][]api.Step{nil, toProof("joined a 0 0"), toProof("asked a; released a; joined a 0 2"), toProof("asked a; asked A"), {asked("a"), {Kind: 5, Name: "a"}}} {
		if got, count := judge.Clashes(x, root, l); got != nil || count != 0 {
			t.Errorf("Clashes of %v = %v, %d", l, got, count)
		}
		if got, ok := judge.Last(x, root, l); got != nil || ok {
			t.Errorf("Last of %v = %v, %v", l, got, ok)
		}
	}
}
