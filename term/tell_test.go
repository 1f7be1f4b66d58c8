package term_test

import (
	"math"
	"testing"

	"comprador/api"
	"comprador/term"
)

// P18.1
func TestCheck(t *testing.T) {
	for _, x := range mayBe() {
		if !term.Check(x) {
			t.Errorf("Check(%s) = false", brief(x))
		}
	}
	for _, x := range mayNot() {
		if term.Check(x) {
			t.Errorf("Check(%s) = true", brief(x))
		}
	}
	if term.Check(api.Term{}) || term.Check(or(api.Term{})) {
		t.Error("a term without a name may be")
	}
}

// P18.1: terms of all kinds, two by two, that may be or not.
func TestSame(t *testing.T) {
	l := append(mayBe(), mayNot()...)
	for i, a := range l {
		for j := range l[:i+1] {
			b := l[j]
			want := alike(a, b)
			if got := term.Same(a, b); got != want {
				t.Fatalf("Same(%s, %s) = %v", brief(a), brief(b), got)
			}
			if got := term.Same(b, a); got != want {
				t.Fatalf("Same(%s, %s) = %v", brief(b), brief(a), got)
			}
		}
	}
}

// P18.1: each field counts, and nothing else; terms that have no state, too, are not alike by that alone.
func TestSameByFields(t *testing.T) {
	for _, c := range []struct {
		a, b api.Term
		want bool
	}{
		{api.Term{}, api.Term{}, true},
		{in("a", 1, 9), in("a", 1, 9), true},
		{in("a", 1, 9), in("b", 1, 9), false},
		{in("a", 1, 9), in("aa", 1, 9), false},
		{in("a", 1, 9), in("a", 1, 8), false},
		{in("a", 1, 9), in("a", 2, 9), false},
		{in("a", 1, 9), in("a"), false},
		{in("a", 1, 9), in("a", 1, 9, 11, 12), false},
		{in("a", 1, 9), or(in("a", 1, 9)), false},
		{or(in("a", 1, 9)), or(in("a", 1, 9)), true},
		{or(in("a")), in("a"), false},
		{in("a"), api.Term{Name: "a", In: []api.Span{}}, true}, // an empty list is none
		{in("a"), in("b"), false},
		{in("a"), api.Term{}, false},
		// such as may not be: by what stands in them
		{in("", 9, 1), in("", 9, 1), true},
		{in("A", 1, 9), in("A", 1, 9), true},
		{in("\xff", 1, 9), in("\xfe", 1, 9), false},
		{in("a", 1, 5, 5, 9), in("a", 1, 9), false},
		{in("a", 5, 5), in("a"), false},
		{in("a", 5, 5), in("a", 6, 6), false},
		{in("a", 0, top+1), in("a", 0, top), false},
		{in("a", 5, 9, 1, 3), in("a", 1, 3, 5, 9), false},
	} {
		for range 2 {
			if got := term.Same(c.a, c.b); got != c.want {
				t.Errorf("Same(%v, %v) = %v", c.a, c.b, got)
			}
			c.a, c.b = c.b, c.a
		}
	}
}

// P18.1: of all terms that cells make.
func TestFullAndEmpty(t *testing.T) {
	for _, name := range goodNames {
		for m := range every + 1 {
			x := set(name, m)
			if got := term.Full(x); got != (m == every) {
				t.Fatalf("Full(%v) = %v", x, got)
			}
			if got := term.Empty(x); got != (m == 0) {
				t.Fatalf("Empty(%v) = %v", x, got)
			}
		}
	}
	for _, c := range []struct {
		x           api.Term
		full, empty bool
	}{
		{or(in("a", 0, top)), true, false},
		{in("a", 0, top), false, false}, // not chosen is a state, too
		{or(in("a", 1, top)), false, false},
		{or(in("a", 0, top-1)), false, false},
		{or(in("a", 0, 5, 6, top)), false, false},
		{or(in("a")), false, false},
		{in("a"), false, true},
		{api.Term{Name: "a", In: []api.Span{}}, false, true},
		{or(api.Term{Name: "a", In: []api.Span{}}), false, false},
		{in("a", 0, 1), false, false},
		{api.Term{Name: "a", In: many(1000)}, false, false},
		{or(api.Term{Name: "a", In: many(1000)}), false, false},
	} {
		if full, empty := term.Full(c.x), term.Empty(c.x); full != c.full || empty != c.empty {
			t.Errorf("Full, Empty(%s) = %v, %v", brief(c.x), full, empty)
		}
	}
}

// P18.1
func TestNot(t *testing.T) {
	for _, c := range []struct{ x, want api.Term }{
		{or(in("a", 1000000, 1000001)), in("a", 0, 1000000, 1000001, top)}, // the chapter's example
		{in("a", 1000000, 1000001), or(in("a", 0, 1000000, 1000001, top))},
		{in("a"), or(in("a", 0, top))},
		{or(in("a", 0, top)), in("a")},
		{in("a", 0, top), or(in("a"))},
		{or(in("a")), in("a", 0, top)},
		{in("α-1", 5, 9), or(in("α-1", 0, 5, 9, top))},
		{in("a", 0, 9), or(in("a", 9, top))},
		{or(in("a", 9, top)), in("a", 0, 9)},
		{api.Term{Name: "a", In: []api.Span{}}, or(in("a", 0, top))},
	} {
		is(t, "Not of "+shown(c.x), term.Not(c.x), c.want)
	}
	for _, name := range goodNames {
		for m := range every + 1 {
			is(t, "Not", term.Not(set(name, m)), set(name, every&^m))
		}
	}
}

// P18.1: of all terms that cells make, at the first and the last place of each cell.
func TestHas(t *testing.T) {
	for m := range every + 1 {
		x := set("a", m)
		for i := range cells {
			for _, place := range []int{cuts[i], cuts[i+1] - 1} {
				if got := term.Has(x, place, true); got != (m>>i&1 == 1) {
					t.Fatalf("Has(%v, %d, true) = %v", x, place, got)
				}
			}
		}
		// Where it is not chosen, it is in no version, whatever is said of one.
		for _, place := range []int{math.MinInt, -1, 0, 1, 6, 999999999, top, math.MaxInt} {
			if got := term.Has(x, place, false); got != (m&none != 0) {
				t.Fatalf("Has(%v, %d, false) = %v", x, place, got)
			}
		}
		for _, place := range []int{math.MinInt, -top, -1, top, top + 1, math.MaxInt} {
			if term.Has(x, place, true) {
				t.Fatalf("Has(%v, %d, true) = true: there is no such version", x, place)
			}
		}
	}
}

// P18.1: a version that is chosen and that the package is not chosen are states of their own.
func TestHasByState(t *testing.T) {
	for _, c := range []struct {
		x              api.Term
		ver            int
		chosen, absent bool
	}{
		{in("a", 5, 9), 5, true, false},
		{in("a", 5, 9), 8, true, false},
		{in("a", 5, 9), 9, false, false},
		{in("a", 5, 9), 4, false, false},
		{or(in("a", 5, 9)), 5, true, true},
		{or(in("a", 5, 9)), 9, false, true},
		{or(in("a")), 0, false, true},
		{in("a"), 0, false, false},
		{in("a", 0, top), 0, true, false},
		{or(in("a", 0, top)), 999999999, true, true},
		{or(in("a", 0, top)), top, false, true},
		{or(in("a", 0, top)), -1, false, true},
	} {
		if chosen, absent := term.Has(c.x, c.ver, true), term.Has(c.x, c.ver, false); chosen != c.chosen || absent != c.absent {
			t.Errorf("Has(%v, %d) = %v, %v", c.x, c.ver, chosen, absent)
		}
	}
}
