package clash_test

import (
	"slices"
	"testing"

	"comprador/api"
	"comprador/clash"
)

// P19.1
func TestCheck(t *testing.T) {
	for _, c := range mayBe() {
		if !clash.Check(c) {
			t.Errorf("Check(%s) = false", brief(c))
		}
	}
	for _, c := range mayNot() {
		if clash.Check(c) {
			t.Errorf("Check(%s) = true", brief(c))
		}
	}
}

// P19.1: the clashes of masks may be; those with a term that is full, or empty, may not.
func TestCheckOfMasks(t *testing.T) {
	for a := range every + 1 {
		for b := range every + 1 {
			c := list(set("a", a), set("b", b))
			want := a != 0 && a != every && b != 0 && b != every
			if got := clash.Check(c); got != want {
				t.Errorf("Check(%v) = %v", c, got)
			}
		}
	}
	for _, m := range all() {
		if c := m.clash(); !clash.Check(c) {
			t.Errorf("Check(%v) = false", c)
		}
	}
}

// P19.1: a clash may be just if each of its terms may stand in one, and each two that stand beside one another rise.
func TestCheckOfAllShortLists(t *testing.T) {
	names := []string{"", "a", "a-", "a0", "b", "α", "A"}
	var some []api.Term
	var good []bool
	for i, name := range names {
		for j, x := range []api.Term{in(name, 5, 9), or(in(name)), in(name), or(in(name, 0, top)), in(name, 9, 5)} {
			some = append(some, x)
			good = append(good, i >= 1 && i <= 5 && j <= 1)
		}
	}
	for i, x := range some {
		if got := clash.Check(list(x)); got != good[i] {
			t.Fatalf("Check(%v) = %v", x, got)
		}
		for j, y := range some {
			two := good[i] && good[j] && i/5 < j/5
			if got := clash.Check(list(x, y)); got != two {
				t.Fatalf("Check(%v, %v) = %v", x, y, got)
			}
			for k, z := range some {
				want := two && good[k] && j/5 < k/5
				if got := clash.Check(list(x, y, z)); got != want {
					t.Fatalf("Check(%v, %v, %v) = %v", x, y, z, got)
				}
			}
		}
	}
}

// P19.1: one term that may not stand in a clash, at each place of many.
func TestCheckOfOneThatMayNotBe(t *testing.T) {
	was := named(letters(30)...)
	for i := range was {
		for _, x := range append(badTerms(was[i].Name), in("", 5, 9), in("A", 5, 9), in(was[i].Name+"_", 5, 9), in(was[i].Name+"abcdefghi", 5, 9)) {
			c := slices.Clone(was)
			c[i] = x
			if clash.Check(c) {
				t.Errorf("Check of %v at %d = true", x, i)
			}
		}
		c := slices.Clone(was)
		if c = slices.Insert(c, i, in(c[i].Name, 7, 8)); clash.Check(c) {
			t.Errorf("Check of %q twice = true", c[i].Name)
		}
		if c = slices.Delete(c, i, i+2); !clash.Check(c) {
			t.Errorf("Check without the term %d = false", i)
		}
	}
}

// P19.1: of any lists, two by two.
func TestSame(t *testing.T) {
	l := append(mayBe(), mayNot()...)
	l = append(l, make([]api.Term, 2), make([]api.Term, 3), named("b", "a"), named("a", "c"), list(in("\xff", 5, 9)), list(in("\xfe", 5, 9)), list(in("\ufffd", 5, 9)))
	for i, a := range l {
		for j, b := range l[:i+1] {
			want := same(a, b)
			if got := clash.Same(a, b); got != want || i == j && !got {
				t.Fatalf("Same(%s, %s) = %v", brief(a), brief(b), got)
			}
			if got := clash.Same(b, a); got != want {
				t.Fatalf("Same(%s, %s) = %v", brief(b), brief(a), got)
			}
		}
		// Memory is not what is asked for.
		if b := deep(a); !clash.Same(a, b) || !clash.Same(b, a) {
			t.Errorf("Same(%s) of one that is made anew = false", brief(a))
		}
	}
	if !clash.Same(nil, []api.Term{}) || !clash.Same([]api.Term{}, nil) || clash.Same(nil, make([]api.Term, 1)) {
		t.Error("an empty list is not alike to none alone")
	}
	if a, b := list(or(in("a"))), list(or(api.Term{Name: "a", In: []api.Span{}})); !clash.Same(a, b) || !clash.Same(b, a) {
		t.Error("a term whose list is empty is not alike to one without")
	}
}

// P19.1: one field that is another one, at each place of many; and lists that are a beginning of others.
func TestSameButOne(t *testing.T) {
	was := named(letters(30)...)
	for i := range was {
		not := was[i]
		not.None = !not.None
		for _, x := range []api.Term{not, in(was[i].Name, i, 2*i+2), {Name: was[i].Name + "a", In: was[i].In, None: was[i].None}, {Name: was[i].Name, None: was[i].None}, {}} {
			c := slices.Clone(was)
			c[i] = x
			if clash.Same(c, was) || clash.Same(was, c) {
				t.Errorf("with %v at %d they are alike", x, i)
			}
		}
		if clash.Same(was[:i], was) || clash.Same(was, was[:i]) || !clash.Same(was[:i], deep(was)[:i]) {
			t.Errorf("of the first %d it is not told whether they are alike", i)
		}
	}
}
