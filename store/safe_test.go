package store_test

import (
	"math"
	"slices"
	"strings"
	"testing"
	"unsafe"

	"comprador/api"
	"comprador/store"
)

// What lies behind the lengths of lists.
var (
	behindSpans = spans(100, 200, -5, 1<<40)
	behindTerms = list(in("a", 0, 1), in("zz", 3, 4), in("", 9, 5), absent("β"))
)

// stretch is a copy of a list, with others behind its length.
func stretch[T any](l, behind []T) []T {
	return slices.Concat(l, behind)[:len(l)]
}

// stretched is a copy of a clash, with others behind the lengths of all its lists.
func stretched(c []api.Term) []api.Term {
	l := slices.Clone(c)
	for i := range l {
		l[i].In = stretch(l[i].In, behindSpans)
	}
	return stretch(l, behindTerms)
}

// spoil writes into all memory that a clash has.
func spoil(c []api.Term) {
	c = c[:cap(c)]
	for i := range c {
		l := c[i].In[:cap(c[i].In)]
		for j := range l {
			l[j] = api.Span{Lo: -77, Hi: -77}
		}
		c[i] = in("spoilt", -77, 77)
	}
}

// spoilNumbers writes into all memory that a list of numbers has.
func spoilNumbers(l []int) {
	l = l[:cap(l)]
	for i := range l {
		l[i] = -77
	}
}

// 0.5, 0.8: what is given is not changed, nor read or written behind its lengths, nor handed out from there.
func TestGivenListsStay(t *testing.T) {
	s := store.New()
	var given [][]api.Term
	for _, x := range some() {
		c := stretched(x.Terms)
		given = append(given, c)
		add(t, s, x.Step, x.Learned, c...)
		if got := s.Add(c, x.Step, x.Learned); got != s.Len()-1 {
			t.Fatalf("Add = %d", got)
		}
	}
	var l []store.Item
	for _, x := range some() {
		l = append(l, x, x)
	}
	has(t, s, l...)
	for i, x := range some() {
		c := given[i]
		for j, term := range x.Terms {
			if c[j].Name != term.Name || c[j].None != term.None || !slices.Equal(c[j].In[:len(c[j].In)+len(behindSpans)], slices.Concat(term.In, behindSpans)) {
				t.Errorf("the clash %v became %v", x.Terms, c)
			}
		}
		if !slices.EqualFunc(c[len(c):len(c)+len(behindTerms)], behindTerms, func(a, b api.Term) bool { return a.Name == b.Name && slices.Equal(a.In, b.In) && a.None == b.None }) {
			t.Errorf("behind the clash %v there is %v", x.Terms, c[:cap(c)])
		}
		got, _ := s.Get(2 * i)
		for _, term := range got.Terms[:cap(got.Terms)] {
			if term.Name == "zz" || slices.Contains(term.In[:cap(term.In)], behindSpans[0]) {
				t.Error("what lies behind a length is handed out")
			}
		}
	}
}

// 0.5, P24.3: what was put in stays, when what was given becomes another thing.
func TestWhatIsGivenIsNotKept(t *testing.T) {
	s := store.New()
	for _, x := range some() {
		c := stretched(x.Terms)
		add(t, s, x.Step, x.Learned, c...)
		spoil(c)
		c = stretched(x.Terms)
		s.Add(c, x.Step, x.Learned)
		spoil(c)
	}
	var l []store.Item
	for _, x := range some() {
		l = append(l, x, x)
	}
	has(t, s, l...)
	name := []byte("abc")
	s = store.New()
	s.Add(list(in(unsafe.String(&name[0], len(name)), 3, 7)), 8, true)
	name[0] = 'x'
	has(t, s, item(8, true, in("abc", 3, 7)))
	tells(t, "About xbc", s.About("xbc"), nil)
	name[0] = 'a'
	tells(t, "About abc", s.About("abc"), []int{0})
}

// 0.5: what is answered is new memory, each time, and stays what it was.
func TestAnswersAreNew(t *testing.T) {
	l := some()
	s := filled(t, l)
	for _, i := range []int{3, 6, 9} {
		drops(t, s, i, true)
		l[i].Gone = true
	}
	for range 2 {
		for i := range l {
			x, _ := s.Get(i)
			spoil(x.Terms)
		}
		for _, numbers := range [][]int{s.Live(), s.Learned(), s.About("a"), s.About("β"), s.About("d")} {
			spoilNumbers(numbers)
		}
		has(t, s, l...)
	}
	x, _ := s.Get(4)
	live, learned, about := s.Live(), s.Learned(), s.About("a")
	wasLive, wasLearned, wasAbout := slices.Clone(live), slices.Clone(learned), slices.Clone(about)
	drops(t, s, 4, true)
	for range 20 {
		s.Add(list(in("a", 7, 9)), 3, true)
	}
	if !same(x, l[4]) {
		t.Errorf("what was told became %v", x)
	}
	tells(t, "Live, told ahead,", live, wasLive)
	tells(t, "Learned, told ahead,", learned, wasLearned)
	tells(t, "About, told ahead,", about, wasAbout)
}

// 0.5: lists of one answer share no memory with one another, behind their lengths neither.
func TestListsAreApart(t *testing.T) {
	for i, x := range some() {
		s := filled(t, some())
		got, _ := s.Get(i)
		for j := range got.Terms {
			got.Terms[j].In = append(got.Terms[j].In, api.Span{Lo: -77, Hi: -77})
		}
		for j, term := range got.Terms {
			if !slices.Equal(term.In, append(slices.Clone(x.Terms[j].In), api.Span{Lo: -77, Hi: -77})) {
				t.Errorf("%v became %v", x.Terms, got.Terms)
			}
		}
		has(t, s, some()...)
	}
}

// within tells whether two texts share memory.
func within(a, b string) bool {
	at := uintptr(unsafe.Pointer(unsafe.StringData(a)))
	from := uintptr(unsafe.Pointer(unsafe.StringData(b)))
	return at < from+uintptr(len(b)) && from < at+uintptr(len(a))
}

// 0.5: the texts, too, that are told share no memory with what was given, nor with one another.
func TestTextsAreNew(t *testing.T) {
	text := "abcdefghijkl" + "bcdefghijklm" + "cdefghijklmn"
	s := store.New()
	s.Add(list(in(text[:12], 1, 9), absent(text[12:24]), or(in(text[24:], 3, 5))), 3, false)
	s.Add(list(in(text[:12], 1, 9)), 4, true)
	s.Drop(1)
	var l []string
	for range 2 {
		for i := range s.Len() {
			x, _ := s.Get(i)
			for _, term := range x.Terms {
				l = append(l, term.Name)
			}
		}
	}
	if len(l) != 8 {
		t.Fatalf("there are %d texts", len(l))
	}
	for i, one := range l {
		if len(one) != 12 || within(one, text) {
			t.Errorf("%q is in the memory of what was given", one)
		}
		for _, other := range l[:i] {
			if within(one, other) {
				t.Errorf("two texts %q share memory", one)
			}
		}
	}
}

// 0.1: a store that was not made by New goes on like one that was.
func TestZeroStore(t *testing.T) {
	s := new(store.Store)
	has(t, s)
	drops(t, s, 0, false)
	l := some()
	for _, x := range l {
		add(t, s, x.Step, x.Learned, x.Terms...)
	}
	drops(t, s, 3, true)
	l[3].Gone = true
	has(t, s, l...)
}

// 0.6: what tells false, or only tells, changes nothing.
func TestTellingChangesNothing(t *testing.T) {
	for seed := range uint64(50) {
		draw := drawer(seed + 5000)
		s := store.New()
		var l []store.Item
		for range 40 {
			l = drawnOp(draw, len(l)).do(t, s, l)
			for i, x := range l {
				if !x.Learned || x.Gone {
					drops(t, s, i, false)
				}
			}
			for _, i := range far(len(l)) {
				drops(t, s, i, false)
				s.Get(i)
			}
			for _, name := range append(goodNames[:7:7], badNames[:3]...) {
				s.About(name)
			}
			has(t, s, l...)
		}
	}
}

// 0.1, 2^31 - 1: there may be many clashes, of which many are dropped, and many terms.
func TestMany(t *testing.T) {
	const n = 30000
	names := letters(100)
	s := store.New()
	var live, learned []int
	about := map[string][]int{}
	for i := range n {
		name, other := names[i*7%50], names[50+i*13%50]
		add(t, s, i, i%4 > 0, in(name, i, i+1), absent(other))
		if i%4 > 1 {
			drops(t, s, i, true)
			continue
		}
		live = append(live, i)
		if i%4 == 1 {
			learned = append(learned, i)
		}
		about[name], about[other] = append(about[name], i), append(about[other], i)
	}
	tells(t, "Live", s.Live(), live)
	tells(t, "Learned", s.Learned(), learned)
	for _, name := range names {
		tells(t, "About "+name, s.About(name), about[name])
	}
	for i := range n {
		x, ok := s.Get(i)
		if !ok || x.Step != i || x.Gone != (i%4 > 1) || len(x.Terms) != 2 || !alike(x.Terms[0], in(names[i*7%50], i, i+1)) {
			t.Fatalf("Get of %d = %v, %v", i, x, ok)
		}
	}
	var long []api.Term
	for i, name := range letters(n) {
		long = append(long, in(name, i, i+1))
	}
	s = store.New()
	add(t, s, 1, true, long...)
	x, ok := s.Get(0)
	if !ok || !same(x, item(1, true, long...)) {
		t.Error("a long clash is another one")
	}
	for _, x := range long {
		tells(t, "About "+x.Name, s.About(x.Name), []int{0})
	}
}

// The language's rule 5: what is told does not hang on how a map is gone through.
func TestToldAgain(t *testing.T) {
	l := some()
	for range 50 {
		s := filled(t, l)
		for range 5 {
			has(t, s, l...)
		}
	}
}

// 0.1: no call panics, or goes on for ever, at any arguments.
func TestAnyArguments(t *testing.T) {
	ends := []int{math.MinInt, -1, 0, 1, 5, top, top + 1, math.MaxInt}
	var terms []api.Term
	for _, name := range append(slices.Clone(badNames), "a", "b", strings.Repeat("\xce", 1<<12)) {
		terms = append(terms, in(name), absent(name), or(in(name, 0, top)), in(name, 5, 9, 1, 3), api.Term{Name: name, In: make([]api.Span, 1000)})
		for _, lo := range ends {
			for _, hi := range ends {
				terms = append(terms, in(name, lo, hi))
			}
		}
	}
	for _, s := range []*store.Store{nil, {}, store.New(), filled(t, some())} {
		for i, x := range terms {
			other := terms[(i*7+3)%len(terms)]
			s.Add(list(x), i, i%2 > 0)
			s.Add(list(x, other, x, x), -i, i%3 > 0)
			s.Get(i)
			s.Drop(i / 2)
			s.About(x.Name)
			for _, n := range ends {
				s.Get(n)
				s.Drop(n)
			}
		}
		s.Add(terms, math.MinInt, true)
		s.Add(make([]api.Term, 1000), math.MaxInt, true)
		s.Drop(s.Len() - 1)
		s.Get(s.Len() - 2)
		s.Live()
		s.Learned()
		s.Len()
	}
}
