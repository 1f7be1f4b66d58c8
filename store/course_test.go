package store_test

import (
	"slices"
	"testing"

	"comprador/api"
	"comprador/store"
)

// op is something that may be done with a store: a clash is put in, or a number is dropped.
type op struct {
	put     bool
	terms   []api.Term
	learned bool
	number  int
}

// do does it with a store, and with a list of items, which is the other way to keep it.
func (o op) do(t *testing.T, s *store.Store, l []store.Item) []store.Item {
	t.Helper()
	l = slices.Clone(l)
	if o.put {
		add(t, s, o.number, o.learned, o.terms...)
		return append(l, item(o.number, o.learned, o.terms...))
	}
	may := o.number >= 0 && o.number < len(l) && l[o.number].Learned && !l[o.number].Gone
	drops(t, s, o.number, may)
	if may {
		l[o.number].Gone = true
	}
	return l
}

// drawnTerms are terms of some of a few names, which rise.
func drawnTerms(draw func(n int) int) []api.Term {
	var c []api.Term
	for _, name := range goodNames[:6] {
		switch draw(4) {
		case 0:
			c = append(c, absent(name))
		case 1:
			lo := draw(100)
			c = append(c, api.Term{Name: name, In: spans(lo, lo+1+draw(9)), None: draw(2) == 0})
		}
	}
	return c
}

// drawnOp is an op on a store of some clashes.
func drawnOp(draw func(n int) int, n int) op {
	if draw(5) < 2 {
		return op{number: draw(n+2) - 1}
	}
	return op{true, drawnTerms(draw), draw(3) > 0, draw(1000)}
}

// P24.1, P24.2: all courses of up to five of some things that may be done come to what they come to in another way.
func TestAllCourses(t *testing.T) {
	ops := []op{
		{put: true, terms: list(in("a", 0, 5)), number: 3},
		{put: true, terms: list(absent("a"), in("b", 5, 9)), learned: true, number: 4},
		{put: true, learned: true},
		{number: -1}, {number: 0}, {number: 1}, {number: 2}, {number: 3},
	}
	courses := [][]op{nil}
	for range 5 {
		var longer [][]op
		for _, l := range courses {
			for _, o := range ops {
				longer = append(longer, append(l[:len(l):len(l)], o))
			}
		}
		for _, course := range longer {
			s := store.New()
			var l []store.Item
			for _, o := range course {
				l = o.do(t, s, l)
			}
			has(t, s, l...)
		}
		courses = longer
	}
}

// P24.1, P24.2: drawn courses do so, behind each few steps.
func TestDrawnCourses(t *testing.T) {
	for seed := range uint64(200) {
		draw := drawer(seed)
		s := store.New()
		var l []store.Item
		for range 100 {
			l = drawnOp(draw, len(l)).do(t, s, l)
			if draw(10) == 0 {
				has(t, s, l...)
			}
		}
		has(t, s, l...)
	}
}

// Stores know nothing of one another.
func TestTwoStores(t *testing.T) {
	draw := drawer(77)
	var stores [5]*store.Store
	var lists [5][]store.Item
	for i := range stores {
		stores[i] = store.New()
	}
	for range 500 {
		i, j := draw(5), draw(5)
		lists[i] = drawnOp(draw, len(lists[i])).do(t, stores[i], lists[i])
		has(t, stores[j], lists[j]...)
	}
}

// P24.3: what was put in is told as it was, whatever follows, and lives up to the one Drop that tells true.
func TestToldAsItWas(t *testing.T) {
	for seed := range uint64(200) {
		draw := drawer(seed + 1000)
		s := store.New()
		var was []store.Item // what Get told right behind each Add
		var dropped []int    // how often each was dropped
		for range 80 {
			o := drawnOp(draw, s.Len())
			if o.put {
				x, _ := s.Get(s.Add(o.terms, o.number, o.learned))
				was, dropped = append(was, x), append(dropped, 0)
			} else if s.Drop(o.number) {
				dropped[o.number]++
			}
			live, learned := s.Live(), s.Learned()
			for i, x := range was {
				x.Gone = dropped[i] > 0
				got, ok := s.Get(i)
				if !ok || !same(got, x) || dropped[i] > 1 || x.Gone && !x.Learned {
					t.Fatalf("%s became %s, which was dropped %d times", brief(x), brief(got), dropped[i])
				}
				if slices.Contains(live, i) == x.Gone || slices.Contains(learned, i) != (x.Learned && !x.Gone) {
					t.Fatalf("%s: %d lives in %v, and is learned in %v", brief(x), i, live, learned)
				}
				for _, term := range x.Terms {
					if slices.Contains(s.About(term.Name), i) == x.Gone {
						t.Fatalf("%s: %d is told of %s in %v", brief(x), i, term.Name, s.About(term.Name))
					}
				}
			}
		}
	}
}
