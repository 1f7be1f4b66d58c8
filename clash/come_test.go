package clash_test

import (
	"slices"
	"testing"

	"comprador/api"
	"comprador/clash"
)

// comes fails, if terms come to another clash than they should, in any of some orders.
func comes(t *testing.T, l []api.Term, want []api.Term, ok bool) {
	t.Helper()
	back := slices.Clone(l)
	slices.Reverse(back)
	for _, some := range [][]api.Term{l, back, slices.Concat(l, back)} {
		got, told := clash.Make(some...)
		is(t, "Make of "+brief(some), got, told, want, ok)
	}
}

// P19.1
func TestMake(t *testing.T) {
	for _, c := range []struct {
		l, want []api.Term
		ok      bool
	}{
		{nil, nil, true},
		{list(), nil, true},
		{list(in("a", 5, 9)), list(in("a", 5, 9)), true},
		{list(or(in("a"))), list(or(in("a"))), true},
		{list(in("b", 5, 9), in("a", 1, 2)), list(in("a", 1, 2), in("b", 5, 9)), true}, // by rising Names
		{list(in("α", 1, 2), in("z", 1, 2), in("aa", 1, 2), in("a-", 1, 2), in("a", 1, 2)), list(in("a", 1, 2), in("a-", 1, 2), in("aa", 1, 2), in("z", 1, 2), in("α", 1, 2)), true},
		{list(in("a", 5, 9), in("a", 8, 12)), list(in("a", 8, 9)), true},
		{list(or(in("a", 5, 9)), in("a", 8, 12)), list(in("a", 8, 9)), true},
		{list(or(in("a", 5, 9)), or(in("a", 8, 12))), list(or(in("a", 8, 9))), true},
		{list(or(in("a", 5, 9)), or(in("a", 10, 12))), list(or(in("a"))), true},
		{list(in("a", 5, 9), in("a", 9, 12)), nil, false},
		{list(in("a", 5, 9), or(in("a"))), nil, false},
		{list(or(in("a")), in("a", 0, top)), nil, false},
		{list(in("a", 5, 9), in("b", 5, 9), in("a", 5, 9)), list(in("a", 5, 9), in("b", 5, 9)), true},
		{list(in("a", 1, 9), in("b", 5, 9), in("a", 5, 12), in("c", 1, 2), in("a", 7, 20)), list(in("a", 7, 9), in("b", 5, 9), in("c", 1, 2)), true},
		// two by two they have states in common, all three have none
		{list(in("a", 1, 2, 3, 4), in("a", 3, 4, 5, 6), in("a", 1, 2, 5, 6)), nil, false},
		// full ones are left out
		{list(or(in("a", 0, top))), nil, true},
		{list(or(in("a", 0, top)), or(in("a", 0, top))), nil, true},
		{list(or(in("a", 0, top)), in("a", 5, 9)), list(in("a", 5, 9)), true},
		{list(or(in("a", 0, top)), in("b", 5, 9), or(in("c", 0, top))), list(in("b", 5, 9)), true},
		{list(in("a", 0, top)), list(in("a", 0, top)), true}, // all versions, but not all states
		// one that is empty, beside any others
		{list(in("a")), nil, false},
		{list(api.Term{Name: "a", In: []api.Span{}}), nil, false},
		{list(in("a"), or(in("a", 0, top))), nil, false},
		{list(in("a", 5, 9), in("b"), in("c", 5, 9)), nil, false},
		{list(or(in("a", 0, top)), in("b")), nil, false},
		{list(in("a"), in("b"), in("c")), nil, false},
		// one in each of many places that is empty by another one behind all
		{append(named(letters(40)...), or(in("aaak"))), nil, false},
	} {
		comes(t, c.l, c.want, c.ok)
	}
}

// P19.1: one term of each kind, alone and twice, is what it was, if it may stand in a clash.
func TestMakeOfOne(t *testing.T) {
	for _, name := range goodNames {
		for _, x := range goodTerms(name) {
			comes(t, list(x), list(x), true)
		}
	}
	for _, c := range mayBe() {
		comes(t, c, c, true)
	}
}

// P19.1: all lists of up to three terms, of three names and all masks, full and empty ones among them.
func TestMakeOfAllShortLists(t *testing.T) {
	makes(t, nil, masks{every, every, every})
}

// makes fails, if terms, whose states are those of masks, come to another clash than the masks do, or if longer lists that begin so do.
func makes(t *testing.T, l []api.Term, m masks) {
	want, ok := m.come()
	got, told := clash.Make(l...)
	is(t, "Make of "+brief(l), got, told, want, ok)
	if !clash.Check(got) {
		t.Fatalf("Make(%v) = %v, which may not be", l, got)
	}
	if len(l) == 3 {
		return
	}
	for i, name := range three {
		for mask := range every + 1 {
			n := m
			n[i] &= mask
			makes(t, append(slices.Clone(l), set(name, mask)), n)
		}
	}
}

// P19.1: of many terms of one name, of many names, and of terms of many spans.
func TestMakeOfMany(t *testing.T) {
	// Each leaves out one version: what they come to leaves out all of them.
	var l []api.Term
	for i := range 1000 {
		l = append(l, or(in("a", 0, 2*i+1, 2*i+2, top)))
	}
	want := or(api.Term{Name: "a"})
	lo := 0
	for _, s := range many(1000) {
		want.In = append(want.In, api.Span{Lo: lo, Hi: s.Lo})
		lo = s.Hi
	}
	want.In = append(want.In, api.Span{Lo: lo, Hi: top})
	comes(t, l, list(want), true)
	comes(t, append(l, api.Term{Name: "a", In: many(1000)}), nil, false)

	c := named(letters(5000)...)
	var full []api.Term
	for _, x := range c {
		full = append(full, or(in(x.Name, 0, top)))
	}
	comes(t, slices.Concat(full, c), c, true)
	comes(t, full, nil, true)

	comes(t, list(api.Term{Name: "a", In: many(20000)}, in("b", 1, 2), api.Term{Name: "a", In: many(10000)}), list(api.Term{Name: "a", In: many(10000)}, in("b", 1, 2)), true)
}
