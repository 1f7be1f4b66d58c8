package plain_test

import (
	"slices"
	"testing"

	"comprador/api"
	"comprador/index"
	"comprador/plain"
)

// isAsked fails, if something else is asked of a name.
func isAsked(t *testing.T, x *index.Index, root []api.Need, l []api.Pick, name string, want []api.Span) {
	t.Helper()
	if got := plain.Asked(x, root, l, name); !slices.Equal(got, want) {
		t.Fatalf("of %v, asked %v, of %q %v is asked, not %v", l, root, name, got, want)
	}
}

// isNext fails, if another name is the next one: want is empty, if there is none.
func isNext(t *testing.T, x *index.Index, root []api.Need, l []api.Pick, want string) {
	t.Helper()
	if name, ok := plain.Next(x, root, l); name != want || ok != (want != "") {
		t.Fatalf("of %v, asked %v, the next name is %q, %v, not %q", l, root, name, ok, want)
	}
}

// P17.2: what is asked of a name.
func TestAsked(t *testing.T) {
	const known = "a 1(b12,c) 2(b23,c!) 3; b 1(c13) 2(a,c3,d1) 3(b3); c 1 2(e1); d! 1; e=a 1(b1)"
	for _, c := range []struct {
		root, picks, name, want string // of a name of which nothing is asked the want is the name alone
	}{
		// Nothing is asked.
		{"", "", "a", "a"},
		{"b1", "", "a", "a"},
		{"a1", "", "αω", "αω"},
		{"", "a3 b1", "a", "a"},
		{"", "c1", "c", "c"},
		// By root.
		{"a", "", "a", "a"},
		{"a13", "", "a", "a13"},
		{"a!", "", "a", "a!"},
		{"a1 b2 c3", "", "b", "b2"},
		{"a1 b2 c3", "", "c", "c3"},
		// By picks' releases, of the versions that are picked.
		{"", "a1", "b", "b12"},
		{"", "a2", "b", "b23"},
		{"", "a3", "b", "b"},
		{"", "a1", "c", "c"},
		{"", "a2", "c", "c!"},
		{"", "b2", "d", "d1"},
		{"", "b3", "b", "b3"},
		{"a", "a1 c2", "e", "e1"},
		// By all of them.
		{"b13", "a1", "b", "b1"},
		{"b13", "a2", "b", "b3"},
		{"b1", "a2", "b", "b!"},
		{"c13", "b1", "c", "c13"},
		{"c12", "b1", "c", "c1"},
		{"c12", "b2", "c", "c!"},
		{"c2", "a1 b1", "c", "c!"},
		{"c23", "a1 b1", "c", "c3"},
		{"c3", "a2 b1", "c", "c!"},
		{"b123", "a2 b3", "b", "b3"},
		{"b", "a1 b3", "b", "b!"},
		// Whether a pick is needed, or in what is asked of it, is not looked at.
		{"b2", "a1 b1", "c", "c13"},
		{"e", "b2", "d", "d1"},
		// Picks of which there is no release need nothing: of another version, of a name that is broken, or not known.
		{"b1", "a4", "b", "b1"},
		{"b", "a4 d1", "b", "b"},
		{"", "e1", "b", "b"},
		{"b23", "e1 f1", "b", "b23"},
	} {
		x := toIndex(t, known)
		isAsked(t, x, toNeeds(c.root), toPicks(c.picks), c.name, toNeed(c.want).In)
	}
}

// P17.2: the least name that is needed and not picked.
func TestNext(t *testing.T) {
	const known = "a 1(b12,c) 2(b23,c!) 3; b 1(c13) 2(a,c3,d1) 3(b3); c 1 2(e1); d! 1; e=a 1(a1); f 1(a)"
	for _, c := range []struct{ root, picks, want string }{
		{"", "", ""},
		{"", "a3", ""},
		{"a", "", "a"},
		{"a!", "", "a"},
		{"b c d", "", "b"},
		{"b c d", "b3", "c"},
		{"b c d", "c1", "b"},
		{"b c d", "b1 c1", "d"},
		{"b c d", "b2 c1", "a"},
		{"b c d", "b3 c1 d1", ""},
		// What picks need, whether they are needed or not.
		{"a", "a1", "b"},
		{"a", "a1 b1", "c"},
		{"a", "a1 c2", "b"},
		{"a", "a1 b1 c2", "e"},
		{"a", "a1 b1 c2 e1", ""},
		{"", "f1", "a"},
		{"b", "f1", "a"},
		{"αω z", "f1", "a"},
		{"", "b3", ""},
		{"", "b2", "a"},
		{"", "a3 b2", "c"},
		{"", "a3 b2 c1", "d"},
		// Whether a pick is in what is asked of it is not looked at.
		{"a1", "a2", "b"},
		{"a!", "a3", ""},
		{"b1", "a3 b3", ""},
		// Picks of which there is no release need nothing.
		{"a", "a4", ""},
		{"d e", "d1 e1", ""},
		{"g", "g1", ""},
		{"g", "e1", "g"},
		// By bytes.
		{"z α", "", "z"},
		{"a-b ab", "", "a-b"},
		{"a ab", "a3", "ab"},
	} {
		isNext(t, toIndex(t, known), toNeeds(c.root), toPicks(c.picks), c.want)
	}
}

// P17.2: of drawn picks, whether they fit or not.
func TestDrawnPicks(t *testing.T) {
	draw := drawer(5)
	narrow, none, open := 0, 0, 0
	for i := range 5000 {
		names := letters(2 + i%9)
		x := drawnIndex(t, draw, names, 4+i%9)
		root := drawnNeeds(draw, names, 5)
		vers := map[string]int{}
		for _, name := range names {
			if draw(3) == 0 {
				vers[name] = draw(5)
			}
		}
		m := modelOf(x, root)
		next, is := m.next(vers)
		isNext(t, x, root, listed(vers), next)
		if is {
			open++
		}
		for _, name := range append(names, "z") {
			var in []api.Span
			has := 0
			// Beside the versions from 0 to 4 each need has all or none.
			for _, ver := range []int{0, 1, 2, 3, 4, 5, top - 1} {
				if m.fits(vers, name, ver) {
					in = append(in, api.Span{Lo: ver, Hi: ver + 1})
					has++
				}
			}
			got := plain.Asked(x, root, listed(vers), name)
			for _, ver := range []int{0, 1, 2, 3, 4, 5, top - 1} {
				if slices.ContainsFunc(got, func(s api.Span) bool { return s.Lo <= ver && ver < s.Hi }) != m.fits(vers, name, ver) {
					t.Fatalf("of %v, asked %v, of %q %v is asked, which has not just %v", vers, root, name, got, in)
				}
			}
			if has == 0 {
				none++
			} else if has < 7 {
				narrow++
			}
		}
	}
	if min(narrow, none, open) < 1000 {
		t.Errorf("%d times some versions are asked for, %d times none; %d times there is a next name", narrow, none, open)
	}
}

// P17.1, P17.2: a search may be done by what Asked and Next tell.
func TestSearchByThem(t *testing.T) {
	draw := drawer(6)
	count := map[int]int{}
	for i := range 2000 {
		names := letters(3 + i%8)
		x := drawnIndex(t, draw, names, 8+i%50)
		root := drawnNeeds(draw, names, 4)
		l, kind, name := plain.Solve(x, root, much)
		if kind == api.Broken || slices.ContainsFunc(root, func(n api.Need) bool { return !x.Has(n.Name) }) {
			continue
		}
		want := byThem(x, root, nil)
		if !slices.Equal(l, want.picks) || kind != want.kind || name != want.name {
			t.Fatalf("asked %v, told are %v, %d, %q, not %v", root, l, kind, name, want)
		}
		count[kind]++
	}
	if min(count[api.Found], count[api.Nothing], count[api.Lacks]) < 50 {
		t.Errorf("there are told, by kinds, %v", count)
	}
}

// byThem is what is told of a search that goes on from some picks.
func byThem(x *index.Index, root []api.Need, l []api.Pick) told {
	fits := func(name string, ver int) bool {
		return slices.ContainsFunc(plain.Asked(x, root, l, name), func(s api.Span) bool { return s.Lo <= ver && ver < s.Hi })
	}
	for _, p := range l {
		if !fits(p.Name, p.Ver) {
			return told{kind: api.Nothing}
		}
	}
	name, ok := plain.Next(x, root, l)
	switch {
	case !ok:
		return told{kind: api.Found, picks: l}
	case !x.Has(name):
		return told{kind: api.Lacks, name: name}
	}
	m, _ := x.Get(name)
	for _, r := range slices.Backward(m.Releases) {
		if !fits(name, r.Ver) {
			continue
		}
		more := append(slices.Clone(l), at(name, r.Ver))
		slices.SortFunc(more, func(a, b api.Pick) int {
			if a.Name < b.Name {
				return -1
			}
			return 1
		})
		if end := byThem(x, root, more); end.kind != api.Nothing {
			return end
		}
	}
	return told{kind: api.Nothing}
}
