package trail_test

import (
	"math"
	"slices"
	"strings"
	"testing"
	"unsafe"

	"comprador/api"
	"comprador/trail"
)

// What lies behind the lengths of lists.
var (
	behindSpans = spans(100, 200, -5, 1<<40)
	behindTerms = list(in("a", 0, 1), in("a"), in("", 9, 5), or(in("β")))
)

// stretch is a copy of a list, with others behind its length.
func stretch[T any](l, behind []T) []T {
	return slices.Concat(l, behind)[:len(l)]
}

// spoil writes into all memory that a term's spans have.
func spoil(x api.Term) {
	for i := range x.In[:cap(x.In)] {
		x.In[:cap(x.In)][i] = api.Span{Lo: -77, Hi: -77}
	}
}

// long is a trail of some levels, with what it is in another way.
func long() (*trail.Trail, other) {
	tr := trail.New()
	tr.Derive(set("a", every&^1), 0)
	tr.Derive(set("β", every&^gone), 3)
	tr.Decide("a-", cuts[2])
	tr.Derive(set("a", every&^16), 5)
	tr.Derive(set("β", 1|4|16), 6)
	tr.Decide("β", cuts[4])
	tr.Derive(set("a", 4|8|gone), 7)
	tr.Derive(set("a", every&^gone), 2)
	return tr, other{{0, every &^ 1, 0, 0}, {2, every &^ gone, 0, 3}, {1, 4, 1, -1}, {0, every &^ 16, 1, 5}, {2, 1 | 4 | 16, 1, 6}, {2, 16, 2, -1}, {0, 4 | 8 | gone, 2, 7}, {0, every &^ gone, 2, 2}}
}

// 0.5, 0.8: what is given is not changed, nor read or written behind its lengths, nor handed out from there.
func TestGivenListsStay(t *testing.T) {
	for mask := range every + 1 {
		tr, o := long()
		was := set("a", mask)
		x := was
		x.In = stretch(was.In, behindSpans)
		e := tr.Derive(x, 5)
		then, right := o.derive(0, mask, 5)
		does(t, "Derive", e, right)
		then.is(t, tr)
		for i := range tr.Len() {
			e, _ := tr.At(i)
			if extra := e.Term.In[len(e.Term.In):cap(e.Term.In)]; slices.Contains(extra, behindSpans[0]) {
				t.Fatal("what lies behind a length is handed out")
			}
		}
		c := list(x, or(in("a-", 0, 1)))
		c = stretch(c, behindTerms)
		n := tr.First(c)
		if right := tr.First(list(was, or(in("a-", 0, 1)))); n != right {
			t.Fatalf("First = %d, not %d, by what lies behind lengths", n, right)
		}
		if !alike(c[0], was) && len(was.In) > 0 || !alike(c[1], or(in("a-", 0, 1))) || !slices.EqualFunc(c[2:2+len(behindTerms)], behindTerms, func(a, b api.Term) bool { return a.Name == b.Name && slices.Equal(a.In, b.In) && a.None == b.None }) {
			t.Fatalf("the clash became %v", c[:cap(c)])
		}
		if !slices.Equal(x.In[:len(x.In)+len(behindSpans)], append(slices.Clone(was.In), behindSpans...)) || x.Name != was.Name || x.None != was.None {
			t.Fatalf("the term %v became %v", was, x)
		}
	}
}

// P23.1, 0.5: what is known stays, when what was derived becomes another thing.
func TestWhatIsDerivedIsNotKept(t *testing.T) {
	tr, o := long()
	again := trail.New()
	for i := range tr.Len() {
		e, _ := tr.At(i)
		if e.Cause < 0 {
			again.Decide(e.Term.Name, e.Term.In[0].Lo)
			continue
		}
		does(t, "Derive", again.Derive(e.Term, e.Cause), api.OK)
		spoil(e.Term)
	}
	o.is(t, again, someClashes()...)
	o.is(t, tr, someClashes()...)
	name := []byte("abc")
	spoilt := unsafe.String(&name[0], len(name))
	again.Derive(or(in(spoilt, 3, 7)), 8)
	again.Decide(spoilt, 5)
	name[0] = 'x'
	last, _ := again.At(again.Len() - 1)
	ahead, _ := again.At(again.Len() - 2)
	if !alike(last.Term, on("abc", 5)) || !alike(ahead.Term, or(in("abc", 3, 7))) || !alike(again.Know("abc"), on("abc", 5)) {
		t.Errorf("by what was given %v and %v became known", ahead, last)
	}
	knows(t, "KnowAt", again.KnowAt(again.Len()-1, "abc"), or(in("abc", 3, 7)))
}

// 0.5: what is answered is new memory, each time.
func TestAnswersAreNew(t *testing.T) {
	tr, o := long()
	for range 2 {
		for _, name := range append(three[:], "zz") {
			for n := -1; n <= tr.Len()+1; n++ {
				spoil(tr.KnowAt(n, name))
				spoil(tr.Know(name))
			}
		}
		for i := range tr.Len() {
			e, _ := tr.At(i)
			spoil(e.Term)
		}
		l := tr.Picks()
		for i := range l[:cap(l)] {
			l[:cap(l)][i] = api.Pick{Name: "spoilt", Ver: -77}
		}
		o.is(t, tr, someClashes()...)
	}
	knows(t, "Know", tr.Know("zz"), full("zz"))
	knows(t, "Know of a nil trail", (*trail.Trail)(nil).Know("zz"), full("zz"))
	e, _ := tr.At(0)
	p := tr.Picks()
	tr.Back(0)
	tr.Decide("zz", 3)
	tr.Derive(on("zzz", 3), 3)
	if was := o[0]; !alike(e.Term, set(three[was.name], was.mask)) || !slices.Equal(p, o.picks()) {
		t.Errorf("what was told became %v, %v", e, p)
	}
}

// within tells whether two texts share memory.
func within(a, b string) bool {
	at := uintptr(unsafe.Pointer(unsafe.StringData(a)))
	from := uintptr(unsafe.Pointer(unsafe.StringData(b)))
	return at < from+uintptr(len(b)) && from < at+uintptr(len(a))
}

// 0.5: the texts, too, that are told share no memory with what was given, nor with one another.
func TestTextsAreNew(t *testing.T) {
	text := "abcdefghijkl" + "bcdefghijklm" + "cdefghijklmn"
	one, two, other := text[:12], text[12:24], text[24:]
	tr := trail.New()
	tr.Derive(in(one, 1, 9), 3)
	tr.Derive(in(one, 4, 20), 3)
	tr.Decide(two, 5)
	tr.Decide(one, 7)
	var l []string
	for range 2 {
		for i := range tr.Len() {
			e, _ := tr.At(i)
			l = append(l, e.Term.Name)
		}
		for _, name := range []string{one, two, other} {
			l = append(l, tr.Know(name).Name, tr.KnowAt(0, name).Name, tr.KnowAt(1, name).Name, tr.KnowAt(2, name).Name)
			l = append(l, (*trail.Trail)(nil).Know(name).Name, (*trail.Trail)(nil).KnowAt(3, name).Name)
		}
		for _, p := range tr.Picks() {
			l = append(l, p.Name)
		}
	}
	if len(l) != 48 {
		t.Fatalf("there are %d texts", len(l))
	}
	for i, s := range l {
		if len(s) != 12 || within(s, text) {
			t.Errorf("%q is in the memory of what was given", s)
		}
		for _, other := range l[:i] {
			if within(s, other) {
				t.Errorf("two texts %q share memory", s)
			}
		}
	}
}

// 0.8: no spans are none, whatever empty list was given; no picks are none.
func TestNoneIsNil(t *testing.T) {
	tr := trail.New()
	does(t, "Derive", tr.Derive(api.Term{Name: "a", In: []api.Span{}, None: true}, 3), api.OK)
	e, _ := tr.At(0)
	for _, x := range list(e.Term, tr.Know("a"), tr.KnowAt(1, "a")) {
		if x.In != nil || !x.None {
			t.Errorf("%#v: not nil", x)
		}
	}
	does(t, "Derive of nothing", tr.Derive(api.Term{Name: "b", In: []api.Span{}}, 3), api.ErrNone)
	if l := tr.Picks(); l != nil {
		t.Errorf("the picks are %#v", l)
	}
}

// 0.1: a trail that was not made by New goes on like one that was.
func TestZeroTrail(t *testing.T) {
	var tr trail.Trail
	tr.Back(0)
	has(t, &tr, 0)
	knows(t, "Know", tr.Know("a"), full("a"))
	if n, m := tr.First(nil), tr.First(list(on("a", 5))); n != 0 || m != -1 || tr.Picks() != nil {
		t.Errorf("First = %d, %d, Picks = %v", n, m, tr.Picks())
	}
	does(t, "Derive", tr.Derive(in("a", 0, 9), 3), api.OK)
	does(t, "Decide", new(trail.Trail).Decide("a", 5), api.OK)
	has(t, &tr, 0, entry(in("a", 0, 9), 0, 3))
	tr.Decide("a", 3)
	tr.Back(0)
	has(t, &tr, 0, entry(in("a", 0, 9), 0, 3))
}

// 0.6: an error has changed nothing, whatever is told later.
func TestErrorsChangeNothing(t *testing.T) {
	for seed := range uint64(100) {
		draw := drawer(seed + 5000)
		tr, again, o := trail.New(), trail.New(), other(nil)
		for range 40 {
			p, was := drawnOp(draw), o
			o = p.do(t, tr, was)
			for range 3 {
				name := three[draw(3)]
				again.Decide(name, -1)
				again.Decide("A", 5)
				again.Derive(in(name, 9, 5), 3)
				again.Derive(in(name), 3)
				again.Derive(full(name), 3)
				again.Derive(on(name, 5), -1)
				again.Back(again.Level())
				again.First(list(on(name, 5)))
			}
			p.do(t, again, was)
		}
		o.is(t, tr, someClashes()...)
		o.is(t, again, someClashes()...)
	}
}

// 0.1, 2^31 - 1: a deep trail is gone up and down.
func TestDeep(t *testing.T) {
	const n = 20000
	names := letters(n)
	tr := trail.New()
	var want []api.Pick
	for i, name := range names {
		does(t, "Derive", tr.Derive(in(name, 0, i+9), i), api.OK)
		does(t, "Decide", tr.Decide(name, i), api.OK)
		does(t, "Derive", tr.Derive(on(name, i), i), api.ErrThere)
		want = append(want, api.Pick{Name: name, Ver: i})
	}
	if tr.Level() != n || tr.Len() != 2*n || !slices.Equal(tr.Picks(), want) {
		t.Fatalf("the level is %d, there are %d entries, and %d picks", tr.Level(), tr.Len(), len(tr.Picks()))
	}
	var all []api.Term
	for i, name := range names {
		all = append(all, on(name, i))
		knows(t, "Know", tr.Know(name), on(name, i))
		knows(t, "KnowAt", tr.KnowAt(2*i+1, name), in(name, 0, i+9))
		knows(t, "KnowAt", tr.KnowAt(2*i, name), full(name))
		if got := tr.First(all[i:]); got != 2*i+2 {
			t.Fatalf("First = %d, not %d", got, 2*i+2)
		}
	}
	if got := tr.First(all); got != 2*n {
		t.Fatalf("First = %d, not %d", got, 2*n)
	}
	for level := n - 1; level >= 0; level -= 7 {
		tr.Back(level)
		knows(t, "Know", tr.Know(names[level]), in(names[level], 0, level+9))
		if tr.Level() != level || tr.Len() != 2*level+1 {
			t.Fatalf("the level is %d, and there are %d entries", tr.Level(), tr.Len())
		}
	}
}

// Of one name much may be known, bit by bit.
func TestManyOfOneName(t *testing.T) {
	const n = 1000
	tr := trail.New()
	want := full("a")
	want.In = nil
	for i := range n {
		does(t, "Derive", tr.Derive(or(in("a", 0, 2*i+1, 2*i+2, top)), i), api.OK)
		want.In = append(want.In, api.Span{Lo: 2 * i, Hi: 2*i + 1})
	}
	last := append(want.In[:n:n], api.Span{Lo: 2 * n, Hi: top})
	knows(t, "Know", tr.Know("a"), api.Term{Name: "a", In: last, None: true})
	for _, i := range []int{0, 1, 2, 500, n - 1, n} {
		now := append(want.In[:i:i], api.Span{Lo: 2 * i, Hi: top})
		knows(t, "KnowAt", tr.KnowAt(i, "a"), api.Term{Name: "a", In: now, None: true})
		if got := tr.First(list(api.Term{Name: "a", In: now, None: true})); got != i {
			t.Errorf("First = %d, not %d", got, i)
		}
	}
}

// DOC.md, the language's rule 5: what is told does not hang on how a map is gone through.
func TestToldAgain(t *testing.T) {
	var want []api.Pick
	for i, name := range letters(200) {
		want = append(want, api.Pick{Name: name, Ver: i})
	}
	for range 20 {
		tr := trail.New()
		for i := range want {
			p := want[(i*77+5)%200]
			does(t, "Decide", tr.Decide(p.Name, p.Ver), api.OK)
		}
		for range 20 {
			if got := tr.Picks(); !slices.Equal(got, want) {
				t.Fatalf("the picks are %v", got)
			}
		}
	}
}

// 0.1: no call panics, or goes on for ever, at any arguments.
func TestAnyArguments(t *testing.T) {
	numbers := []int{math.MinInt, -top, -1, 0, 1, 5, 999999999, top, top + 1, math.MaxInt}
	var terms []api.Term
	for _, name := range []string{"", "a", "b", "A", "\xff", strings.Repeat("\xce", 1<<12), strings.Repeat("a ", 1<<12)} {
		terms = append(terms, in(name), full(name), api.Term{Name: name, In: make([]api.Span, 1000)}, or(in(name, 5, 9, 1, 3)))
		for _, lo := range numbers {
			for _, hi := range numbers {
				terms = append(terms, in(name, lo, hi), or(in(name, lo, hi, lo, hi)), in(name, lo, hi, 5, 9), or(in(name, 5, 9, lo, hi)))
			}
		}
	}
	made, _ := long()
	for _, tr := range []*trail.Trail{nil, {}, trail.New(), made} {
		for i, x := range terms {
			n := numbers[i%len(numbers)]
			tr.First(list(x))
			tr.First(list(x, terms[(i*7+3)%len(terms)], x))
			tr.Know(x.Name)
			tr.KnowAt(n, x.Name)
			tr.Decide(x.Name, n)
			tr.Derive(x, n)
			tr.At(n)
			tr.Picks()
			if i%50 == 0 {
				tr.Back(n)
			}
		}
		tr.First(terms)
		tr.First(make([]api.Term, 1000))
	}
}
