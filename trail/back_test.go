package trail_test

import (
	"math"
	"slices"
	"testing"

	"comprador/api"
	"comprador/trail"
)

// climb is a trail of four levels, and its entries.
func climb() (*trail.Trail, []trail.Entry) {
	tr := trail.New()
	tr.Derive(in("a", 0, top), 4)
	tr.Derive(or(in("b", 3, 9)), 5)
	tr.Decide("a", 1)
	tr.Derive(or(in("b", 3, 7)), 0)
	tr.Derive(or(in("c", 0, 5)), 6)
	tr.Decide("β", 2)
	tr.Decide("b", 5)
	tr.Derive(or(in("c")), 7)
	tr.Decide("d", 9)
	return tr, []trail.Entry{
		entry(in("a", 0, top), 0, 4), entry(or(in("b", 3, 9)), 0, 5),
		entry(on("a", 1), 1, -1), entry(or(in("b", 3, 7)), 1, 0), entry(or(in("c", 0, 5)), 1, 6),
		entry(on("β", 2), 2, -1),
		entry(on("b", 5), 3, -1), entry(or(in("c")), 3, 7),
		entry(on("d", 9), 4, -1),
	}
}

// P23.2: behind Back the entries of greater levels are gone; below 0 is 0; of a level that is not greater nothing is done.
func TestBack(t *testing.T) {
	for _, c := range []struct{ to, level, entries int }{
		{math.MinInt, 0, 2}, {-1, 0, 2}, {0, 0, 2}, {1, 1, 5}, {2, 2, 6}, {3, 3, 8}, {4, 4, 9}, {5, 4, 9}, {math.MaxInt, 4, 9},
	} {
		tr, l := climb()
		has(t, tr, 4, l...)
		for range 2 {
			tr.Back(c.to)
			has(t, tr, c.level, l[:c.entries]...)
		}
		does(t, "Decide", tr.Decide("e", 8), api.OK)
		has(t, tr, c.level+1, append(slices.Clone(l[:c.entries]), entry(on("e", 8), c.level+1, -1))...)
	}
}

// P23.2: level by level.
func TestBackLevelByLevel(t *testing.T) {
	tr, l := climb()
	for _, c := range []struct {
		to, entries int
		a, b, c, d  api.Term
		picks       []api.Pick
	}{
		{4, 9, on("a", 1), on("b", 5), or(in("c")), on("d", 9), picks("a", 1, "b", 5, "d", 9, "β", 2)},
		{3, 8, on("a", 1), on("b", 5), or(in("c")), full("d"), picks("a", 1, "b", 5, "β", 2)},
		{2, 6, on("a", 1), or(in("b", 3, 7)), or(in("c", 0, 5)), full("d"), picks("a", 1, "β", 2)},
		{1, 5, on("a", 1), or(in("b", 3, 7)), or(in("c", 0, 5)), full("d"), picks("a", 1)},
		{0, 2, in("a", 0, top), or(in("b", 3, 9)), full("c"), full("d"), nil},
	} {
		tr.Back(c.to)
		has(t, tr, c.to, l[:c.entries]...)
		for _, x := range list(c.a, c.b, c.c, c.d) {
			knows(t, "Know", tr.Know(x.Name), x)
			knows(t, "KnowAt", tr.KnowAt(9, x.Name), x)
		}
		if got := tr.Picks(); !slices.Equal(got, c.picks) {
			t.Errorf("the picks of level %d are %v, not %v", c.to, got, c.picks)
		}
	}
}

// P23.2: what is derived behind Back is of the level that was gone back to, and what is decided of the next one.
func TestGoOnBehindBack(t *testing.T) {
	tr, l := climb()
	tr.Back(1)
	does(t, "Derive", tr.Derive(in("c", 0, 3), 9), api.OK)
	does(t, "Decide", tr.Decide("b", 6), api.OK)
	does(t, "Derive", tr.Derive(on("d", 7), 9), api.OK)
	want := append(slices.Clone(l[:5]), entry(in("c", 0, 3), 1, 9), entry(on("b", 6), 2, -1), entry(on("d", 7), 2, 9))
	has(t, tr, 2, want...)
	knows(t, "Know", tr.Know("c"), in("c", 0, 3))
	knows(t, "Know", tr.Know("β"), full("β"))
	tr.Back(0)
	does(t, "Derive", tr.Derive(on("d", 9), 0), api.OK)
	has(t, tr, 0, l[0], l[1], entry(on("d", 9), 0, 0))
}

// P23.2: entries that were derived in level 0 never go.
func TestBackOfLevelNone(t *testing.T) {
	tr := trail.New()
	tr.Back(0)
	tr.Back(5)
	tr.Derive(in("a", 0, 9), 1)
	tr.Derive(in("a", 3, top), 2)
	for _, level := range []int{math.MinInt, -1, 0, 1, math.MaxInt} {
		tr.Back(level)
		has(t, tr, 0, entry(in("a", 0, 9), 0, 1), entry(in("a", 3, top), 0, 2))
		knows(t, "Know", tr.Know("a"), in("a", 3, 9))
	}
}

// P23.2: Picks are what was decided, by rising names, each once, and nothing that was derived.
func TestPicks(t *testing.T) {
	tr := trail.New()
	var want []api.Pick
	for i := range goodNames {
		name := goodNames[(i*5+3)%len(goodNames)] // each comes once
		tr.Derive(on("zz", 7), 3)
		tr.Decide(name, i)
		tr.Decide(name, i)
		want = append(want, api.Pick{Name: name, Ver: i})
		slices.SortFunc(want, func(a, b api.Pick) int { return slices.Index(goodNames, a.Name) - slices.Index(goodNames, b.Name) })
		if got := tr.Picks(); !slices.Equal(got, want) {
			t.Fatalf("the picks are %v, not %v", got, want)
		}
	}
	for level := tr.Level(); level > 0; level-- {
		tr.Back(level)
		if n := len(tr.Picks()); n != (level+1)/2 {
			t.Fatalf("of level %d there are %d picks", level, n)
		}
	}
	tr.Derive(on("b", 8), 3)
	tr.Back(0)
	if got := tr.Picks(); got != nil {
		t.Errorf("the picks are %v", got)
	}
}

// P23.2: First is by how many entries each term of a clash is sure.
func TestFirst(t *testing.T) {
	tr, _ := climb()
	for _, c := range []struct {
		terms []api.Term
		n     int
	}{
		{nil, 0},
		{list(), 0},
		{list(in("a", 0, top)), 1},
		{list(on("a", 1)), 3},
		{list(or(on("a", 1))), 3},
		{list(or(in("a", 0, 9))), 3},
		{list(on("a", 2)), -1},
		{list(or(in("a"))), -1},
		{list(or(in("b", 0, 9))), 2},
		{list(or(in("b", 3, 9))), 2},
		{list(or(in("b", 3, 8))), 4},
		{list(or(in("b", 4, 9))), 7},
		{list(in("b", 0, top)), 7},
		{list(on("b", 5)), 7},
		{list(in("b", 0, 5)), -1},
		{list(or(in("c", 0, 7))), 5},
		{list(or(in("c", 0, 4))), 8},
		{list(in("c", 0, top)), -1},
		{list(on("d", 9)), 9},
		{list(in("d", 0, 9)), -1},
		{list(in("e", 0, top)), -1},
		{list(or(in("e", 0, 5))), -1},
		{list(or(in("e"))), -1},
		{list(in("a", 0, top), or(in("b", 3, 9))), 2},
		{list(on("a", 1), or(in("b", 3, 9))), 3},
		{list(in("a", 0, top), in("b", 3, 9), or(in("c", 0, 5))), 7},
		{list(in("a", 0, top), or(in("b", 3, 9)), or(in("c"))), 8},
		{list(in("a", 0, top), in("β", 2, 7)), 6},
		{list(in("a", 0, top), in("e", 0, top)), -1},
		{list(in("a", 0, top), in("d", 0, 9)), -1},
		{list(or(in("aa")), on("b", 5)), -1},
		{list(on("a", 1), on("b", 5), or(in("c")), on("d", 9), on("β", 2)), 9},
	} {
		if got := tr.First(c.terms); got != c.n {
			t.Errorf("First of %s = %d, not %d", brief(c.terms), got, c.n)
		}
	}
	tr.Back(2)
	for _, c := range []struct {
		x api.Term
		n int
	}{{on("b", 5), -1}, {or(in("c")), -1}, {or(in("b", 3, 8)), 4}, {on("β", 2), 6}, {on("d", 9), -1}} {
		if got := tr.First(list(c.x)); got != c.n {
			t.Errorf("behind Back First of %s = %d, not %d", brief(c.x), got, c.n)
		}
	}
}

// P23.1, P23.2: of a nil trail.
func TestNil(t *testing.T) {
	var tr *trail.Trail
	for range 2 {
		has(t, tr, 0)
		for _, name := range append(goodNames, badNames...) {
			knows(t, "Know", tr.Know(name), full(name))
			for _, n := range []int{math.MinInt, -1, 0, 1, math.MaxInt} {
				knows(t, "KnowAt", tr.KnowAt(n, name), full(name))
				tr.Back(n)
			}
		}
		for _, c := range [][]api.Term{nil, {}, list(in("a", 0, top)), list(or(in("a")), on("b", 5)), list(full("a"))} {
			if got := tr.First(c); got != -1 {
				t.Errorf("First of %v = %d", c, got)
			}
		}
		if got := tr.Picks(); got != nil {
			t.Errorf("the picks are %#v", got)
		}
		does(t, "Decide", tr.Decide("a", 5), api.ErrArg)
		does(t, "Derive", tr.Derive(on("a", 5), 5), api.ErrArg)
	}
}
