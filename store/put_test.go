package store_test

import (
	"math"
	"testing"

	"comprador/store"
)

// The chapter's example.
func TestExample(t *testing.T) {
	s := store.New()
	if got := s.Add(list(in("a", 1000000, 1000001), absent("b")), 5, false); got != 0 {
		t.Errorf("Add = %d", got)
	}
	if got := s.Add(list(absent("b")), 6, true); got != 1 {
		t.Errorf("Add = %d", got)
	}
	drops(t, s, 0, false)
	drops(t, s, 1, true)
	tells(t, "Live", s.Live(), []int{0})
}

// P24.1: a new store is without clashes, and each is another one.
func TestNew(t *testing.T) {
	s, other := store.New(), store.New()
	if s == nil || s == other {
		t.Fatal("New: no new store")
	}
	has(t, s)
	add(t, s, 3, true, in("a", 5, 9))
	has(t, s, item(3, true, in("a", 5, 9)))
	has(t, other)
	has(t, store.New())
	add(t, other, 4, false, absent("b"))
	drops(t, s, 0, true)
	has(t, s, gone(item(3, true, in("a", 5, 9))))
	has(t, other, item(4, false, absent("b")))
}

// some are items of all kinds: of no term, of one, of many; learned or not; of one alike.
func some() []store.Item {
	return []store.Item{
		item(0, false, in("a", 0, 5)),
		item(1, false),
		item(2, true),
		item(7, true, in("a", 0, 5)),
		item(7, true, in("a", 0, 5)),
		item(3, false, in("a", 0, 5, 7, 9), absent("b"), or(in("c", 3, 4))),
		item(9, true, absent("a"), in("a-", 0, top), or(in("aa", 1, top)), or(in("β", 0, 1, 2, 3, 4, 5, 6, 7, 8, 9, 10, 11, 12, 13))),
		item(4, false, in("β", 0, 1)),
		item(5, true, in("b", 0, 1), in("c", 0, 1)),
		item(6, true, in("c", 0, 1), in("d", 0, 1)),
	}
}

// filled is a store of items, none of which is gone.
func filled(t *testing.T, l []store.Item) *store.Store {
	t.Helper()
	s := store.New()
	for _, x := range l {
		add(t, s, x.Step, x.Learned, x.Terms...)
	}
	return s
}

// P24.1: clashes are numbered as they are put in, and kept as they are.
func TestAdd(t *testing.T) {
	l := some()
	s := store.New()
	for i, x := range l {
		add(t, s, x.Step, x.Learned, x.Terms...)
		has(t, s, l[:i+1]...)
	}
}

// P24.1: a clash that is there already has another number when it comes again, learned or not.
func TestAddAgain(t *testing.T) {
	s := store.New()
	var l []store.Item
	for i := range 5 {
		for _, learned := range []bool{false, true} {
			x := item(i/2, learned, in("a", 5, 9), absent("b"))
			add(t, s, x.Step, learned, x.Terms...)
			l = append(l, x)
		}
	}
	has(t, s, l...)
	drops(t, s, 3, true)
	l[3].Gone = true
	has(t, s, l...)
}

// P24.1: any step is kept.
func TestSteps(t *testing.T) {
	s := store.New()
	var l []store.Item
	for _, step := range []int{0, 1, -1, 1 << 20, 1<<20 + 1, math.MaxInt, math.MinInt} {
		add(t, s, step, step&1 == 0, in("a", 0, 1))
		l = append(l, item(step, step&1 == 0, in("a", 0, 1)))
	}
	has(t, s, l...)
}

// P24.1: the clash without terms is there, and empty lists are none.
func TestNoTerms(t *testing.T) {
	s := store.New()
	if got := s.Add(list(), 3, true); got != 0 {
		t.Errorf("Add = %d", got)
	}
	x := in("a")
	x.In = spans()
	x.None = true
	if got := s.Add(list(x), 4, false); got != 1 {
		t.Errorf("Add = %d", got)
	}
	if got := s.Add(nil, 5, false); got != 2 {
		t.Errorf("Add = %d", got)
	}
	has(t, s, item(3, true), item(4, false, absent("a")), item(5, false))
	drops(t, s, 0, true)
	has(t, s, gone(item(3, true)), item(4, false, absent("a")), item(5, false))
}

// P24.1: what was learned is dropped, once; what was not never is; other things stay.
func TestDrop(t *testing.T) {
	l := some()
	s := filled(t, l)
	for range 2 {
		for i, x := range l {
			drops(t, s, i, x.Learned && !x.Gone)
			l[i].Gone = x.Learned
			has(t, s, l...)
			drops(t, s, i, false)
			has(t, s, l...)
		}
	}
	tells(t, "Learned", s.Learned(), nil)
	tells(t, "Live", s.Live(), []int{0, 1, 5, 7})
}

// P24.1: each by itself is dropped, and leaves the others.
func TestDropOfOne(t *testing.T) {
	for i, x := range some() {
		l := some()
		s := filled(t, l)
		drops(t, s, i, x.Learned)
		l[i].Gone = x.Learned
		has(t, s, l...)
	}
}

// P24.1: there is no clash of other numbers, and nothing is dropped by them.
func TestNoSuchNumber(t *testing.T) {
	l := some()
	for n := range len(l) + 1 {
		s := filled(t, l[:n])
		for _, i := range far(n) {
			drops(t, s, i, false)
		}
		has(t, s, l[:n]...)
	}
}

// P24.1, P24.2: numbers go on behind those that were dropped, and none comes again.
func TestAddBehindDrop(t *testing.T) {
	s := store.New()
	var l []store.Item
	for i := range 20 {
		x := item(i, i%3 > 0, in("a", i, i+1), absent("b"))
		add(t, s, x.Step, x.Learned, x.Terms...)
		l = append(l, x)
		has(t, s, l...)
		drops(t, s, i, x.Learned)
		l[i].Gone = x.Learned
		has(t, s, l...)
	}
}

// P24.1, P24.2: of a nil store.
func TestNil(t *testing.T) {
	var s *store.Store
	for range 2 {
		has(t, s)
		for i := -1; i < 3; i++ {
			drops(t, s, i, false)
			if x, ok := s.Get(i); ok || !same(x, store.Item{}) {
				t.Errorf("Get of %d = %v, %v", i, x, ok)
			}
		}
		for _, x := range some() {
			for _, learned := range []bool{false, true} {
				if got := s.Add(x.Terms, x.Step, learned); got != -1 {
					t.Errorf("Add = %d", got)
				}
			}
		}
		for _, name := range append(goodNames, badNames...) {
			tells(t, "About", s.About(name), nil)
		}
	}
}
