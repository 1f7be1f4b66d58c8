package clash_test

import (
	"slices"
	"testing"

	"comprador/api"
	"comprador/clash"
)

// finds fails, if of a name another term is told than it should.
func finds(t *testing.T, c []api.Term, name string, want api.Term, is bool) {
	t.Helper()
	got, ok := clash.Find(c, name)
	if !alike(got, want) || ok != is {
		t.Fatalf("Find(%s, %q) = %v, %v, not %v, %v", brief(c), name, got, ok, want, is)
	}
}

// P19.2
func TestFind(t *testing.T) {
	for _, c := range mayBe() {
		for i, x := range c {
			if i%97 != 0 {
				continue
			}
			finds(t, c, x.Name, x, true)
			for _, name := range []string{x.Name + "a", x.Name[:len(x.Name)-1], " " + x.Name, x.Name + " "} {
				if !slices.ContainsFunc(c, func(y api.Term) bool { return y.Name == name }) {
					finds(t, c, name, or(in(name, 0, top)), false)
				}
			}
		}
		for _, name := range []string{"ωωωωωωωωωωωω", "zzzzzzzzzzzz", "aaaaaaaaaaaa", "c"} {
			finds(t, c, name, or(in(name, 0, top)), false)
		}
	}
	c := list(in("a", 5, 9), or(in("c")), in("α", 0, top))
	for _, name := range []string{"", "A", "b", "d", "z", "β", "aa", "\xff", "\xce"} {
		finds(t, c, name, or(in(name, 0, top)), false)
		finds(t, nil, name, or(in(name, 0, top)), false)
	}
	finds(t, c, "a", in("a", 5, 9), true)
	finds(t, c, "c", or(in("c")), true)
	finds(t, c, "α", in("α", 0, top), true)
	finds(t, c[:1], "c", or(in("c", 0, top)), false)
	finds(t, c[1:], "a", or(in("a", 0, top)), false)
}

// P19.2
func TestJoin(t *testing.T) {
	for _, c := range []struct {
		a, b []api.Term
		name string
		want []api.Term
		ok   bool
	}{
		// the chapter's examples
		{list(in("a", 1000000, 1000001), or(in("b"))), list(in("b", 2000000, 2000001)), "b", list(in("a", 1000000, 1000001), or(in("b", 2000000, 2000001))), true},
		{list(or(in("b"))), list(in("b", 0, top)), "b", nil, true},
		// of both terms of the name the Join, of the other ones the Meet
		{list(in("a", 1, 5), in("b", 1, 5)), list(in("a", 4, 9), in("b", 4, 9)), "a", list(in("a", 1, 9), in("b", 4, 5)), true},
		{list(in("a", 1, 5), in("b", 1, 5)), list(in("a", 4, 9), in("b", 4, 9)), "b", list(in("a", 4, 5), in("b", 1, 9)), true},
		{list(in("a", 1, 2), in("b", 1, 2)), list(in("b", 5, 6), in("c", 1, 2)), "b", list(in("a", 1, 2), in("b", 1, 2, 5, 6), in("c", 1, 2)), true},
		{list(in("b", 1, 5)), list(in("b", 5, 9)), "b", list(in("b", 1, 9)), true},
		{list(in("b", 1, 5)), list(or(in("b"))), "b", list(or(in("b", 1, 5))), true},
		{list(in("a", 1, 2), or(in("b"))), list(in("b", 0, top), in("c", 1, 2)), "b", list(in("a", 1, 2), in("c", 1, 2)), true}, // full: left out
		{list(in("b", 0, 5)), list(or(in("b", 5, top))), "b", nil, true},
		// others that can't both be
		{list(in("a", 1, 5), in("b", 1, 5)), list(in("a", 5, 9), in("b", 5, 9)), "a", nil, false},
		{list(in("a", 1, 5), in("b", 1, 5)), list(in("a", 5, 9), in("b", 5, 9)), "b", nil, false},
		{list(in("a", 1, 2), or(in("b"))), list(or(in("a")), in("b", 0, top)), "b", nil, false},
		// one of both has no term of the name, or none has
		{list(in("a", 1, 5)), list(in("b", 1, 5)), "a", nil, false},
		{list(in("a", 1, 5)), list(in("b", 1, 5)), "b", nil, false},
		{list(in("a", 1, 5)), list(in("b", 1, 5)), "c", nil, false},
		{list(in("a", 1, 5)), list(in("a", 5, 9)), "b", nil, false},
		{list(in("a", 1, 5)), list(in("a", 5, 9)), "", nil, false},
		{list(in("a", 1, 5)), list(in("a", 5, 9)), "A", nil, false},
		{list(in("a", 1, 5)), nil, "a", nil, false},
		{nil, nil, "a", nil, false},
		{nil, nil, "", nil, false},
	} {
		for range 2 {
			got, ok := clash.Join(c.a, c.b, c.name)
			is(t, "Join of "+brief(c.a)+" and "+brief(c.b)+" over "+c.name, got, ok, c.want, c.ok)
			c.a, c.b = c.b, c.a
		}
	}
}

// P19.2: of all clashes of three names, two by two, over each name.
func TestJoinOfAllClashes(t *testing.T) {
	l := all()
	var clashes [][]api.Term
	for _, m := range l {
		clashes = append(clashes, m.clash())
	}
	for i, m := range l {
		for j, n := range l {
			for k, name := range three {
				var want []api.Term
				ok := m[k] != every && n[k] != every
				if ok {
					both := m.both(n)
					both[k] = m[k] | n[k]
					want, ok = both.come()
				}
				got, told := clash.Join(clashes[i], clashes[j], name)
				is(t, "Join", got, told, want, ok)
			}
		}
	}
}

// P19.2
func TestHolds(t *testing.T) {
	a1 := []api.Pick{{Name: "a", Ver: 1}}
	ab := []api.Pick{{Name: "a", Ver: 1}, {Name: "b", Ver: 7}}
	for _, c := range []struct {
		c    []api.Term
		l    []api.Pick
		want bool
	}{
		{nil, nil, true}, // the one without terms always holds
		{nil, ab, true},
		{[]api.Term{}, ab, true},
		{list(in("a", 1, 2)), a1, true},
		{list(in("a", 2, 3)), a1, false},
		{list(in("a", 0, 1)), a1, false},
		{list(or(in("a", 2, 3))), a1, false}, // it is chosen, in another version
		{list(or(in("a"))), a1, false},
		{list(or(in("a"))), nil, true},
		{list(or(in("a", 1, 2))), nil, true},
		{list(or(in("a", 1, 2))), a1, true},
		{list(in("a", 0, top)), nil, false}, // not chosen: in no version, 0 not either
		{list(in("a", 0, 1)), nil, false},
		{list(in("a", 0, top)), a1, true},
		{list(in("b", 1, 2)), a1, false},
		{list(or(in("b"))), a1, true},
		{list(in("a", 1, 2), in("b", 7, 8)), ab, true},
		{list(in("a", 1, 2), in("b", 8, 9)), ab, false},
		{list(in("a", 2, 3), in("b", 7, 8)), ab, false},
		{list(in("a", 1, 2), or(in("c"))), ab, true},
		{list(in("a", 1, 2), in("c", 0, top)), ab, false},
		{list(in("a", 1, 2), in("b", 0, top)), a1, false},
		{list(or(in("aa")), in("b", 7, 8)), ab, true},
		{list(in("α", 999999999, top)), []api.Pick{{Name: "α", Ver: 999999999}}, true},
		{list(in("α", 0, 999999999)), []api.Pick{{Name: "α", Ver: 999999999}}, false},
		{list(in("α", 0, 1)), []api.Pick{{Name: "α", Ver: 0}}, true},
	} {
		if got := clash.Holds(c.c, c.l); got != c.want {
			t.Errorf("Holds(%v, %v) = %v", c.c, c.l, got)
		}
	}
}

// P19.2: of all clashes of three names, and all states that these may have.
func TestHoldsOfAllClashes(t *testing.T) {
	for _, p := range choices() {
		for _, m := range all() {
			if got := clash.Holds(m.clash(), p.picks); got != m.holds(p.states) {
				t.Fatalf("Holds(%v, %v) = %v", m.clash(), p.picks, got)
			}
		}
	}
}

// P19.2: one term that has not its package's state, at each place of many.
func TestHoldsOfMany(t *testing.T) {
	names := letters(60)
	var c []api.Term
	var l []api.Pick
	for i, name := range names {
		if i%3 == 0 {
			c = append(c, or(in(name, i+1, i+2)))
			continue
		}
		c = append(c, in(name, i, i+1))
		l = append(l, api.Pick{Name: name, Ver: i})
	}
	if !clash.Holds(c, l) || !clash.Holds(c, append(slices.Clone(l), api.Pick{Name: "ω", Ver: 3})) {
		t.Error("it does not hold")
	}
	for i := range c {
		other := slices.Clone(c)
		other[i] = in(c[i].Name, 100, 200)
		if clash.Holds(other, l) {
			t.Errorf("with %v at %d it holds", other[i], i)
		}
	}
	for i := range l {
		if clash.Holds(c, slices.Delete(slices.Clone(l), i, i+1)) {
			t.Errorf("without the pick %d it holds", i)
		}
	}
}

// P19.3: a Join of two clashes holds of picks only if one of the two does.
func TestJoinFollows(t *testing.T) {
	some := choices()
	l := all()
	for i, m := range l {
		for j := i % 7; j < len(l); j += 7 {
			n := l[j]
			for _, name := range three {
				c, ok := clash.Join(m.clash(), n.clash(), name)
				if !ok {
					continue
				}
				if !clash.Check(c) {
					t.Fatalf("the Join %v may not be", c)
				}
				for k := (i + j) % 5; k < len(some); k += 5 {
					if l := some[k].picks; clash.Holds(c, l) && !clash.Holds(m.clash(), l) && !clash.Holds(n.clash(), l) {
						t.Fatalf("of %v the Join over %q of %v and %v holds alone", l, name, m.clash(), n.clash())
					}
				}
			}
		}
	}
}

// P19.3: what terms come to holds of picks just if each of the terms has its package's state.
func TestMakeFollows(t *testing.T) {
	some := choices()
	for _, m := range all() {
		for first := range every + 1 {
			for second := 1; second <= every; second += 2 {
				l := append(list(set(three[2], first), set(three[0], second)), m.clash()...)
				n := m.both(masks{second, every, first})
				c, ok := clash.Make(l...)
				for _, p := range some {
					if got := ok && clash.Holds(c, p.picks); got != n.holds(p.states) {
						t.Fatalf("of %v: %v come to %v, %v, which holds: %v", p.picks, l, c, ok, got)
					}
				}
			}
		}
	}
}
