package trail_test

import (
	"math"
	"testing"

	"comprador/api"
	"comprador/trail"
)

// P23.1: the example, and what is known behind each of its steps.
func TestExample(t *testing.T) {
	tr := trail.New()
	has(t, tr, 0)
	knows(t, "Know of a new trail", tr.Know("a"), full("a"))
	does(t, "Derive", tr.Derive(in("a", 0, top), 4), api.OK)
	has(t, tr, 0, entry(in("a", 0, top), 0, 4))
	knows(t, "Know behind Derive", tr.Know("a"), in("a", 0, top))
	does(t, "Decide", tr.Decide("a", 1000000), api.OK)
	has(t, tr, 1, entry(in("a", 0, top), 0, 4), entry(on("a", 1000000), 1, -1))
	knows(t, "Know behind Decide", tr.Know("a"), on("a", 1000000))
	tr.Back(0)
	has(t, tr, 0, entry(in("a", 0, top), 0, 4))
	knows(t, "Know behind Back", tr.Know("a"), in("a", 0, top))
	if n := tr.First(list(in("a", 0, top))); n != 1 {
		t.Errorf("First = %d, not 1", n)
	}
}

// P23.1: of a name without entries the full term is known, whatever is known of others, and whatever the name is.
func TestKnowOfOthers(t *testing.T) {
	tr := trail.New()
	for range 2 {
		for _, name := range append(goodNames[1:], badNames...) {
			for _, n := range []int{math.MinInt, -1, 0, 1, 2, 5, math.MaxInt} {
				knows(t, "KnowAt", tr.KnowAt(n, name), full(name))
			}
			knows(t, "Know", tr.Know(name), full(name))
		}
		tr.Derive(in("a", 0, top), 4)
		tr.Decide("a", 5)
	}
}

// P23.1: KnowAt is by the first entries: by none below 1, by all if there are no more.
func TestKnowAt(t *testing.T) {
	tr := trail.New()
	tr.Derive(in("a", 0, 9), 4)
	tr.Derive(or(in("b", 3, 7)), 5)
	tr.Derive(or(in("a", 2, 20)), 6)
	tr.Derive(in("b", 0, 5, 6, top), 7)
	tr.Decide("a", 8)
	for _, c := range []struct {
		n    int
		a, b api.Term
	}{
		{math.MinInt, full("a"), full("b")},
		{-1, full("a"), full("b")},
		{0, full("a"), full("b")},
		{1, in("a", 0, 9), full("b")},
		{2, in("a", 0, 9), or(in("b", 3, 7))},
		{3, in("a", 2, 9), or(in("b", 3, 7))},
		{4, in("a", 2, 9), in("b", 3, 5, 6, 7)},
		{5, on("a", 8), in("b", 3, 5, 6, 7)},
		{6, on("a", 8), in("b", 3, 5, 6, 7)},
		{math.MaxInt, on("a", 8), in("b", 3, 5, 6, 7)},
	} {
		knows(t, "KnowAt of a", tr.KnowAt(c.n, "a"), c.a)
		knows(t, "KnowAt of b", tr.KnowAt(c.n, "b"), c.b)
		knows(t, "KnowAt of c", tr.KnowAt(c.n, "c"), full("c"))
	}
	knows(t, "Know of a", tr.Know("a"), on("a", 8))
	knows(t, "Know of b", tr.Know("b"), in("b", 3, 5, 6, 7))
}

// P23.1: Decide wants a trail, a name that may be, and a version's place.
func TestDecideArg(t *testing.T) {
	tr := trail.New()
	tr.Decide("b", 7)
	want := entry(on("b", 7), 1, -1)
	for _, name := range badNames {
		for _, ver := range []int{math.MinInt, -1, 0, 5, top - 1, top, math.MaxInt} {
			does(t, "Decide of a name that may not be", tr.Decide(name, ver), api.ErrArg)
		}
	}
	for _, name := range goodNames {
		for _, ver := range []int{math.MinInt, -top, -1, top, top + 1, 1 << 40, math.MaxInt} {
			does(t, "Decide of no version", tr.Decide(name, ver), api.ErrArg)
		}
		for _, ver := range []int{math.MinInt, -1, 0, 5, top - 1, top, math.MaxInt} {
			does(t, "Decide of a nil trail", (*trail.Trail)(nil).Decide(name, ver), api.ErrArg)
		}
	}
	has(t, tr, 1, want)
}

// P23.1: each name that may be is decided, in each place there is.
func TestDecide(t *testing.T) {
	for _, ver := range []int{0, 1, 999, 1000, 1000000, top - 2, top - 1} {
		tr := trail.New()
		var want []trail.Entry
		for i, name := range goodNames {
			does(t, "Decide", tr.Decide(name, ver), api.OK)
			want = append(want, entry(on(name, ver), i+1, -1))
			has(t, tr, i+1, want...)
			knows(t, "Know", tr.Know(name), on(name, ver))
		}
	}
}

// P23.1: what is known must have the state that the name is chosen in that version.
func TestDecideNone(t *testing.T) {
	for _, c := range []struct {
		x        api.Term
		has, not []int
	}{
		{full("a"), []int{0, 5, top - 1}, nil},
		{in("a", 0, top), []int{0, 5, top - 1}, nil},
		{or(in("a")), nil, []int{0, 1, 5, top - 1}},
		{in("a", 3, 7), []int{3, 4, 6}, []int{0, 2, 7, top - 1}},
		{or(in("a", 3, 7)), []int{3, 4, 6}, []int{0, 2, 7, top - 1}},
		{in("a", 0, 1, top-1, top), []int{0, top - 1}, []int{1, 5, top - 2}},
		{in("a", 1, top-1), []int{1, 5, top - 2}, []int{0, top - 1}},
		{api.Term{Name: "a", In: many(100)}, []int{1, 3, 199}, []int{0, 2, 198, 200}},
	} {
		for _, ver := range c.has {
			tr := trail.New()
			tr.Derive(c.x, 2)
			n := tr.Len()
			does(t, "Decide", tr.Decide("a", ver), api.OK)
			got, _ := tr.At(n)
			if !alike(got.Term, on("a", ver)) || tr.Len() != n+1 {
				t.Errorf("of %s %d was decided by %s", brief(c.x), ver, brief(got))
			}
		}
		tr := trail.New()
		tr.Derive(c.x, 2)
		for _, ver := range c.not {
			does(t, "Decide", tr.Decide("a", ver), api.ErrNone)
			has(t, tr, 0, entry(c.x, 0, 2))
		}
	}
}

// P23.1: what was decided may be decided again, as its state is known: it is of a new level.
func TestDecideAgain(t *testing.T) {
	tr := trail.New()
	for level := 1; level <= 3; level++ {
		does(t, "Decide", tr.Decide("a", 3), api.OK)
		does(t, "Decide of another one", tr.Decide("a", 4), api.ErrNone)
		does(t, "Derive of it", tr.Derive(on("a", 3), 4), api.ErrThere)
		if tr.Level() != level || tr.Len() != level {
			t.Errorf("the level is %d, and there are %d entries, not %d", tr.Level(), tr.Len(), level)
		}
	}
	has(t, tr, 3, entry(on("a", 3), 1, -1), entry(on("a", 3), 2, -1), entry(on("a", 3), 3, -1))
}

// derivable are terms that may be, of a name: of one a trail knows nothing of, but the full and the empty one, there is something new in each.
func derivable(name string) []api.Term {
	return []api.Term{
		in(name, 0, top), or(in(name)), in(name, 0, 1), or(in(name, 0, 1)), in(name, top-1, top), or(in(name, 1, top)), or(in(name, 0, top-1)), in(name, 5, 9), or(in(name, 5, 9, 10, 12)), or(in(name, 0, 5, 6, top)), {Name: name, In: many(7)}, or(api.Term{Name: name, In: many(1000)}),
	}
}

// P23.1: Derive wants a trail, a term that may be, and a cause that is a number.
func TestDeriveArg(t *testing.T) {
	tr := trail.New()
	tr.Derive(in("a", 3, 7), 2)
	tr.Decide("b", 7)
	var bad []api.Term
	for _, name := range badNames {
		bad = append(bad, append(derivable(name), full(name), in(name))...)
	}
	for _, name := range []string{"a", "b", "c"} {
		for _, set := range badSets {
			bad = append(bad, api.Term{Name: name, In: set}, or(api.Term{Name: name, In: set}))
		}
	}
	for _, x := range bad {
		for _, cause := range []int{math.MinInt, -1, 0, 1, math.MaxInt} {
			does(t, "Derive of "+brief(x), tr.Derive(x, cause), api.ErrArg)
		}
	}
	for _, x := range append(derivable("a"), full("a"), in("a"), on("b", 7), on("b", 8), on("c", 7)) {
		for _, cause := range []int{math.MinInt, -2, -1} {
			does(t, "Derive by no cause", tr.Derive(x, cause), api.ErrArg)
		}
		does(t, "Derive of a nil trail", (*trail.Trail)(nil).Derive(x, 3), api.ErrArg)
	}
	has(t, tr, 1, entry(in("a", 3, 7), 0, 2), entry(on("b", 7), 1, -1))
}

// P23.1: each term that may be is derived, of each name, by each cause, in each level.
func TestDerive(t *testing.T) {
	for i := range derivable("a") {
		tr := trail.New()
		var want []trail.Entry
		level := 0
		for j, name := range goodNames {
			x := derivable(name)[i]
			cause := []int{0, 1, 77, math.MaxInt}[j%4]
			does(t, "Derive", tr.Derive(x, cause), api.OK)
			want = append(want, entry(x, level, cause))
			has(t, tr, level, want...)
			knows(t, "Know", tr.Know(name), x)
			if j%3 == 1 {
				level++
				tr.Decide("zz", 5)
				want = append(want, entry(on("zz", 5), level, -1))
			}
		}
	}
}

// P23.1: by what is known, of each term: that there is no state in common, that it is known, or that it is derived, as it was given.
func TestDeriveByWhatIsKnown(t *testing.T) {
	for known := 1; known <= every; known++ {
		for x := range every + 1 {
			tr := trail.New()
			var want []trail.Entry
			if known != every {
				does(t, "the first Derive", tr.Derive(set("a", known), 8), api.OK)
				want = append(want, entry(set("a", known), 0, 8))
			}
			e := tr.Derive(set("a", x), 9)
			right := api.OK
			switch {
			case known&x == 0:
				right = api.ErrNone
			case known&^x == 0:
				right = api.ErrThere
			default:
				want = append(want, entry(set("a", x), 0, 9))
				known := set("a", known&x)
				knows(t, "Know", tr.Know("a"), known)
			}
			does(t, "Derive", e, right)
			has(t, tr, 0, want...)
			knows(t, "Know of another name", tr.Know("b"), full("b"))
		}
	}
}
