package mani_test

import (
	"math"
	"slices"
	"strings"
	"testing"
	"unsafe"

	"comprador/api"
	"comprador/mani"
)

// deepNeeds are needs that share no list with those.
func deepNeeds(l []api.Need) []api.Need {
	var c []api.Need
	for _, n := range l {
		c = append(c, api.Need{Name: n.Name, In: slices.Clone(n.In)})
	}
	return c
}

// deep is a manifest that shares no list with that one, made without the package that makes such.
func deep(m api.Manifest) api.Manifest {
	c := api.Manifest{Name: m.Name}
	for _, r := range m.Releases {
		c.Releases = append(c.Releases, rel(r.Ver, deepNeeds(r.Needs)...))
	}
	return c
}

// spoilSpans writes into all memory that a set has.
func spoilSpans(l []api.Span) {
	for i := range l[:cap(l)] {
		l[:cap(l)][i] = api.Span{Lo: -77, Hi: -77}
	}
}

// spoilNeeds writes into all memory that needs have, those behind their length, too.
func spoilNeeds(l []api.Need) {
	for i, n := range l[:cap(l)] {
		spoilSpans(n.In)
		l[:cap(l)][i].Name = "spoilt"
	}
}

// spoil writes into all memory that a manifest has.
func spoil(m api.Manifest) {
	l := m.Releases[:cap(m.Releases)]
	for i, r := range l {
		spoilNeeds(r.Needs)
		l[i].Ver = -77
	}
}

// lists are all lists of spans of a manifest.
func lists(m api.Manifest) [][]api.Span {
	var l [][]api.Span
	for _, r := range m.Releases {
		for _, n := range r.Needs {
			l = append(l, n.In)
		}
	}
	return l
}

// apart fails, if two lists of one answer share memory.
func apart(t *testing.T, m api.Manifest) {
	t.Helper()
	was := deep(m)
	l, still := lists(m), lists(was)
	for i := range l {
		spoilSpans(l[i])
		for j := i + 1; j < len(l); j++ {
			if !slices.Equal(l[j], still[j]) {
				t.Fatalf("of %v the sets %d and %d share memory", was, i, j)
			}
		}
	}
	for i := range m.Releases {
		spoilNeeds(m.Releases[i].Needs)
		for j := i + 1; j < len(m.Releases); j++ {
			for k, n := range m.Releases[j].Needs {
				if n.Name != was.Releases[j].Needs[k].Name {
					t.Fatalf("of %v the needs of %d and %d share memory", was, i, j)
				}
			}
		}
	}
}

// P9.1, 0.5: a clone shares no memory with what it is one of, and what is answered is new.
func TestAnswersAreNew(t *testing.T) {
	for _, was := range manifests() {
		m := deep(was)
		spoil(mani.Clone(m))
		if !alike(m, was) {
			t.Fatalf("Clone(%v) shares memory with it", was)
		}
		c := mani.Clone(m)
		spoil(m)
		if !alike(c, was) {
			t.Fatalf("Clone(%v) became %v", was, c)
		}
		apart(t, c)
	}
	for _, was := range mayBe() {
		m := deep(was)
		for _, r := range was.Releases {
			got, _ := mani.Get(m, r.Ver)
			apart(t, pack("a", got))
			again, _ := mani.Get(m, r.Ver)
			spoilNeeds(again.Needs)
		}
		spoilSpans(mani.Vers(m))
		for _, l := range [][]string{mani.Names(m), mani.Names(m)} {
			for i := range l[:cap(l)] {
				l[:cap(l)][i] = "spoilt"
			}
		}
		in := slices.Clone(all)
		for _, l := range [][]int{mani.Down(m, in), mani.Down(m, in)} {
			for i := range l[:cap(l)] {
				l[:cap(l)][i] = -77
			}
		}
		if !alike(m, was) || !slices.Equal(in, all) {
			t.Fatalf("what is told of %v shares memory with it: %v", was, m)
		}
	}
}

// P9.1: releases that share memory with one another have clones that do not.
func TestSharedListsAreSetApart(t *testing.T) {
	in := spans(5, 9, 20, 30)
	needs := []api.Need{{Name: "a", In: in}, {Name: "b", In: in}, {Name: "c", In: in[:1]}}
	m := pack("x", rel(1, needs...), rel(2, needs...), rel(3, needs[:2]...))
	want := deep(m)
	got := mani.Clone(m)
	if !alike(got, want) {
		t.Errorf("Clone(%v) = %v", want, got)
	}
	apart(t, got)
	one, _ := mani.Get(m, 2)
	if !alikeReleases(one, want.Releases[1]) {
		t.Errorf("Get(%v, 2) = %v", want, one)
	}
	apart(t, pack("x", one))
	if !alike(m, want) {
		t.Errorf("%v became %v", want, m)
	}
}

// P9.1, 0.5: texts, too, are new.
func TestTextsAreNew(t *testing.T) {
	long := strings.Repeat("abc", 3)
	m := pack(long[3:], rel(1, named(long[:4], long[2:])...))
	shared := func(s string) bool {
		at := uintptr(unsafe.Pointer(unsafe.StringData(s)))
		from := uintptr(unsafe.Pointer(unsafe.StringData(long)))
		return at >= from && at < from+uintptr(len(long))
	}
	if !shared(m.Name) {
		t.Fatal("what is given does not share the text")
	}
	c := mani.Clone(m)
	r, _ := mani.Get(m, 1)
	texts := append(mani.Names(m), c.Name)
	for _, n := range append(c.Releases[0].Needs, r.Needs...) {
		texts = append(texts, n.Name)
	}
	for _, s := range texts {
		if shared(s) {
			t.Errorf("%q is in the memory of what was given", s)
		}
	}
	if len(texts) != 7 {
		t.Errorf("there are %d texts", len(texts))
	}
}

// stretch is a manifest whose lists' memory goes on behind their lengths, with what would be seen in an answer.
func stretch(m api.Manifest) api.Manifest {
	c := api.Manifest{Name: m.Name}
	for _, r := range m.Releases {
		var needs []api.Need
		for _, n := range r.Needs {
			needs = append(needs, api.Need{Name: n.Name, In: append(slices.Clone(n.In), endsBehind()...)[:len(n.In)]})
		}
		needs = append(needs, needsBehind()...)[:len(r.Needs)]
		c.Releases = append(c.Releases, api.Release{Ver: r.Ver, Needs: needs})
	}
	c.Releases = append(c.Releases, releasesBehind()...)[:len(m.Releases)]
	return c
}

// What lies behind the lists' lengths.
func endsBehind() []api.Span        { return spans(100, 200, 300, 400, -5, 1<<40, 7, 3) }
func needsBehind() []api.Need       { return []api.Need{of("zz", 1, 2), of("zz", 100, 200, -5, 1<<40)} }
func releasesBehind() []api.Release { return []api.Release{rel(999999999, of("zz", 1, 2)), rel(-5)} }

// stays fails, if a stretched manifest, or what lies behind its lists, is another one than it was.
func stays(t *testing.T, m, was api.Manifest) {
	t.Helper()
	behind := releasesBehind()
	long := m.Releases[:len(m.Releases)+len(behind)]
	if !alike(m, was) || !slices.EqualFunc(long[len(m.Releases):], behind, alikeReleases) {
		t.Fatalf("%v became %v", was, long)
	}
	for _, r := range m.Releases {
		behind := needsBehind()
		if !alikeNeeds(r.Needs[:len(r.Needs)+len(behind)][len(r.Needs):], behind) {
			t.Fatalf("of %v what is behind needs was written", was)
		}
		for _, n := range r.Needs {
			ends := endsBehind()
			if !slices.Equal(n.In[:len(n.In)+len(ends)][len(n.In):], ends) {
				t.Fatalf("of %v what is behind a set was written", was)
			}
		}
	}
}

// hands fails, if a manifest's memory has what lies behind lists.
func hands(t *testing.T, m api.Manifest) {
	t.Helper()
	for _, r := range m.Releases[:cap(m.Releases)] {
		for _, n := range r.Needs[:cap(r.Needs)] {
			if n.Name == "zz" || slices.Contains(n.In[:cap(n.In)], endsBehind()[2]) {
				t.Fatalf("%v hands out what is behind lists", m)
			}
		}
	}
}

// 0.5, 0.8: what is given is not changed, and nothing behind a length is read, written, or handed out.
func TestGivenListsStay(t *testing.T) {
	for _, was := range manifests() {
		m := stretch(was)
		if mani.Check(m) != mani.Check(was) || !mani.Same(m, was) || !mani.Same(was, m) {
			t.Fatalf("of %v what is behind it was read", was)
		}
		hands(t, mani.Clone(m))
		stays(t, m, was)
	}
	for _, was := range mayBe() {
		m := stretch(was)
		in := append(slices.Clone(all), spans(5, 9)...)[:1]
		if !slices.Equal(mani.Vers(m), mani.Vers(was)) || !slices.Equal(mani.Names(m), mani.Names(was)) || !slices.Equal(mani.Down(m, in), mani.Down(was, in)) || mani.Down(m, in[:0]) != nil {
			t.Fatalf("of %v what is behind it was read", was)
		}
		for _, v := range []int{0, 5, 1000000, 999999999, -5} {
			got, ok := mani.Get(m, v)
			if want, is := mani.Get(was, v); !alikeReleases(got, want) || ok != is {
				t.Fatalf("Get(%v, %d) = %v, %v", was, v, got, ok)
			}
			hands(t, pack("a", got))
		}
		most, ok := mani.Newest(m, in)
		if want, is := mani.Newest(was, in); most != want || ok != is {
			t.Fatalf("Newest(%v) = %d, %v", was, most, ok)
		}
		if !slices.Equal(in[:2], spans(0, 1000000000, 5, 9)) {
			t.Fatalf("of %v the set that was given became %v", was, in[:2])
		}
		stays(t, m, was)
	}
}

// 0.3, 0.8: none is a nil list, and so is what stands beside a false.
func TestNoneIsNil(t *testing.T) {
	for _, m := range []api.Manifest{bare("a"), {Name: "a", Releases: []api.Release{}}} {
		if mani.Vers(m) != nil || mani.Names(m) != nil || mani.Down(m, all) != nil || mani.Clone(m).Releases != nil {
			t.Errorf("of %v a list is told that is not nil", m)
		}
	}
	m := pack("a", api.Release{Ver: 5, Needs: []api.Need{}}, rel(6, api.Need{Name: "b", In: []api.Span{}}))
	if got := mani.Clone(m); got.Releases[0].Needs != nil || got.Releases[1].Needs[0].In != nil {
		t.Errorf("Clone(%v) = %v", m, got)
	}
	if mani.Down(m, spans(7, 9)) != nil || mani.Down(m, nil) != nil || mani.Names(pack("a", m.Releases[0])) != nil {
		t.Errorf("of %v a list is told that is not nil", m)
	}
	for _, v := range []int{5, 7} {
		if got, _ := mani.Get(m, v); got.Needs != nil {
			t.Errorf("Get(%v, %d) = %v", m, v, got)
		}
	}
}

// 0.1: no call panics, or goes on for ever, at any manifest, number or list.
func TestAnyManifests(t *testing.T) {
	numbers := []int{math.MinInt, -1, 0, 1, 1000, 999999999, 1000000000, 1000000001, math.MaxInt}
	some := append(manifests(), bare(strings.Repeat("ω", 1<<18), 1), many(1<<12), pack("a", rel(1, named(strings.Repeat("\xff", 1<<18))...)))
	ins := [][]api.Span{nil, all, manySpans(1000)}
	for _, lo := range numbers {
		for _, hi := range numbers {
			some = append(some, bare("a", lo, hi), bare("a", hi, lo, hi), pack("a", rel(lo, of("a", lo, hi)), rel(hi, of("b", hi, lo, 5, 9), of("a", 1, 2))))
			ins = append(ins, spans(lo, hi), spans(lo, hi, lo, hi), spans(5, 9, hi, lo))
		}
	}
	for _, m := range some {
		mani.Check(m)
		mani.Vers(m)
		mani.Names(m)
		mani.Clone(m)
		mani.Same(m, m)
		mani.Same(m, bare("a", 1, 2))
		for _, n := range numbers {
			mani.Get(m, n)
		}
		for _, in := range ins {
			mani.Down(m, in)
			mani.Newest(m, in)
		}
	}
}
