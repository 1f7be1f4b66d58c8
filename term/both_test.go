package term_test

import (
	"testing"

	"comprador/api"
	"comprador/span"
	"comprador/term"
)

// P18.2
func TestMeetAndJoin(t *testing.T) {
	for _, c := range []struct{ a, b, meet, join api.Term }{
		{in("a", 1, 9), in("a", 8, 12), in("a", 8, 9), in("a", 1, 12)},
		{or(in("a", 1, 9)), in("a", 8, 12), in("a", 8, 9), or(in("a", 1, 12))},
		{or(in("a", 1, 9)), or(in("a", 8, 12)), or(in("a", 8, 9)), or(in("a", 1, 12))},
		{in("a", 1, 5), in("a", 5, 9), in("a"), in("a", 1, 9)}, // they touch
		{or(in("a", 1, 5)), or(in("a", 5, 9)), or(in("a")), or(in("a", 1, 9))},
		{in("a"), in("a"), in("a"), in("a")},
		{in("a"), or(in("a")), in("a"), or(in("a"))},
		{or(in("a")), in("a", 0, top), in("a"), or(in("a", 0, top))},
		{or(in("a")), in("a", 1, 2), in("a"), or(in("a", 1, 2))},
		{or(in("a", 0, top)), in("a", 1, 9), in("a", 1, 9), or(in("a", 0, top))},
		{or(in("a", 0, top)), or(in("a")), or(in("a")), or(in("a", 0, top))},
		{in("a", 0, 5), or(in("a", 5, top)), in("a"), or(in("a", 0, top))},
		{in("α-1", 1, 3, 5, 9), in("α-1", 2, 6, 8, 10), in("α-1", 2, 3, 5, 6, 8, 9), in("α-1", 1, 10)},
		{api.Term{Name: "a", In: []api.Span{}}, in("a", 1, 2), in("a"), in("a", 1, 2)},
	} {
		for range 2 {
			is(t, "Meet of "+shown(c.a)+" and "+shown(c.b), term.Meet(c.a, c.b), c.meet)
			is(t, "Join of "+shown(c.a)+" and "+shown(c.b), term.Join(c.a, c.b), c.join)
			c.a, c.b = c.b, c.a
		}
	}
}

// P18.2
func TestWithin(t *testing.T) {
	for _, c := range []struct {
		a, b api.Term
		want bool
	}{
		{in("a", 2, 8), in("a", 1, 9), true},
		{in("a", 1, 9), in("a", 1, 9), true},
		{in("a", 1, 9), in("a", 2, 8), false},
		{in("a", 1, 9), in("a", 1, 5, 6, 9), false},
		{in("a", 2, 8), or(in("a", 1, 9)), true},
		{or(in("a", 2, 8)), or(in("a", 1, 9)), true},
		{or(in("a", 2, 8)), in("a", 1, 9), false},
		{or(in("a", 1, 9)), or(in("a", 2, 8)), false},
		{in("a"), in("a"), true},
		{in("a"), in("a", 1, 2), true},
		{in("a"), or(in("a")), true},
		{or(in("a")), in("a"), false},
		{or(in("a")), or(in("a")), true},
		{or(in("a")), in("a", 0, top), false},
		{or(in("a")), or(in("a", 0, top)), true},
		{in("a", 0, top), or(in("a")), false},
		{in("a", 0, top), or(in("a", 0, top)), true},
		{or(in("a", 0, top)), in("a", 0, top), false},
	} {
		if got := term.Within(c.a, c.b); got != c.want {
			t.Errorf("Within(%s, %s) = %v", shown(c.a), shown(c.b), got)
		}
	}
}

// P18.2: of all terms of a name that cells make, two by two.
func TestAllTermsTwoByTwo(t *testing.T) {
	for _, name := range []string{"a", "αβγδεζηθικλμ"} {
		var l []api.Term
		for m := range every + 1 {
			l = append(l, set(name, m))
		}
		for m, a := range l {
			for n, b := range l {
				if got := term.Meet(a, b); !alike(got, l[m&n]) {
					t.Fatalf("Meet(%v, %v) = %v", a, b, got)
				}
				if got := term.Join(a, b); !alike(got, l[m|n]) {
					t.Fatalf("Join(%v, %v) = %v", a, b, got)
				}
				if got := term.Within(a, b); got != (m&^n == 0) {
					t.Fatalf("Within(%v, %v) = %v", a, b, got)
				}
				if got := term.Same(a, b); got != (m == n) {
					t.Fatalf("Same(%v, %v) = %v", a, b, got)
				}
			}
		}
	}
}

// P18.2: of unlike Names, whatever else the terms are, empty and full ones among them.
func TestOfUnlikeNames(t *testing.T) {
	for i, name := range goodNames {
		for j, other := range goodNames {
			if i == j {
				continue
			}
			for _, m := range []int{0, 1, 5, none - 1, none, none + 1, every} {
				for _, n := range []int{0, m, every &^ m, every} {
					a, b := set(name, m), set(other, n)
					meet, join := term.Meet(a, b), term.Join(a, b)
					if !alike(meet, api.Term{}) || !alike(join, api.Term{}) || meet.In != nil || join.In != nil {
						t.Fatalf("of %v, %v: Meet %v, Join %v", a, b, meet, join)
					}
					if term.Within(a, b) {
						t.Fatalf("Within(%v, %v) = true", a, b)
					}
				}
			}
		}
	}
}

// P18.3
func TestWhatFollows(t *testing.T) {
	for m := range every + 1 {
		a := set("a", m)
		not := term.Not(a)
		is(t, "Not of Not", term.Not(not), a)
		if meet := term.Meet(a, not); !term.Empty(meet) || meet.Name != "a" {
			t.Fatalf("the Meet of %v and its Not is %v", a, meet)
		}
		if join := term.Join(a, not); !term.Full(join) || join.Name != "a" {
			t.Fatalf("the Join of %v and its Not is %v", a, join)
		}
		for n := range every + 1 {
			b := set("a", n)
			if got, want := term.Not(term.Join(a, b)), term.Meet(not, term.Not(b)); !term.Same(got, want) || !term.Check(got) {
				t.Fatalf("of %v and %v: the Not of the Join is %v, the Meet of both Nots %v", a, b, got, want)
			}
			if term.Within(a, b) != term.Empty(term.Meet(a, term.Not(b))) {
				t.Fatalf("of %v and %v: Within is %v", a, b, term.Within(a, b))
			}
		}
	}
}

// P18.1, P18.2: what is put together has just the states that it should, one by one.
func TestStatesOneByOne(t *testing.T) {
	for m := range every + 1 {
		a := set("a", m)
		for n := range every + 1 {
			b := set("a", n)
			meet, join, not := term.Meet(a, b), term.Join(a, b), term.Not(a)
			for i := range states {
				place, chosen := cuts[i%cells], i < cells
				inA, inB := m>>i&1 == 1, n>>i&1 == 1
				if term.Has(meet, place, chosen) != (inA && inB) || term.Has(join, place, chosen) != (inA || inB) || term.Has(not, place, chosen) == inA {
					t.Fatalf("of %v, %v: Meet %v, Join %v, Not %v: wrong at %d, %v", a, b, meet, join, not, place, chosen)
				}
			}
		}
	}
}

// P18.1, P18.2: of terms of many spans, more than a need may have.
func TestOfManySpans(t *testing.T) {
	var twos, threes []api.Span
	for i := range 60000 {
		if i%2 == 0 {
			twos = append(twos, api.Span{Lo: i, Hi: i + 1})
		}
		if i%3 == 0 {
			threes = append(threes, api.Span{Lo: i, Hi: i + 1})
		}
	}
	a, b := api.Term{Name: "a", In: twos}, or(api.Term{Name: "a", In: threes})
	if !term.Check(a) || !term.Check(b) {
		t.Fatal("they may not be")
	}
	meet, join, not := term.Meet(a, b), term.Join(a, b), term.Not(b)
	if span.Count(meet.In) != 10000 || meet.None || !term.Within(meet, a) || !term.Within(meet, b) {
		t.Errorf("the Meet has %d versions, %v", span.Count(meet.In), meet.None)
	}
	if span.Count(join.In) != 40000 || !join.None || !term.Within(a, join) || !term.Within(b, join) || term.Within(a, b) || term.Within(b, a) {
		t.Errorf("the Join has %d versions, %v", span.Count(join.In), join.None)
	}
	if span.Count(not.In) != top-20000 || not.None {
		t.Errorf("the Not has %d versions, %v", span.Count(not.In), not.None)
	}
	is(t, "Not of Not", term.Not(not), b)
	if got := term.Show(b); got != shown(b) {
		t.Errorf("its text begins %.80q", got)
	}
}
