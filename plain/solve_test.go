package plain_test

import (
	"slices"
	"strings"
	"testing"

	"comprador/api"
	"comprador/fit"
	"comprador/index"
	"comprador/plain"
	"comprador/reach"
)

// P17.1: the chapter's example.
func TestExample(t *testing.T) {
	x := knows(t, pack("a", rel(1000000), rel(2000000, of("b", 0, 2000000))), pack("b", rel(2000000)))
	root := []api.Need{of("a", 0, top), of("b", 0, top)}
	isTold(t, x, root, 100, told{kind: api.Found, picks: []api.Pick{at("a", 1000000), at("b", 2000000)}})
	// Tried are a 2.0.0, of which b is a dead end, a 1.0.0, and b 2.0.0.
	isTold(t, x, root, 3, told{kind: api.Found, picks: []api.Pick{at("a", 1000000), at("b", 2000000)}})
	isTold(t, x, root, 2, told{kind: api.Spent})
}

// P17.1: what is told, by much fuel, and how many versions are tried.
func TestSolve(t *testing.T) {
	for _, c := range []struct {
		known, root, want string
		tried             int
	}{
		// Of no needs nothing is picked, whatever is known.
		{"", "", "found", 0},
		{"a 1; b! 1", "", "found", 0},
		// The newest version that is asked for.
		{"a 1", "a", "found a1", 1},
		{"a 1 2 3", "a", "found a3", 1},
		{"a 1 2 3", "a12", "found a2", 1},
		{"a 1 2 3", "a1", "found a1", 1},
		{"a 1 3 5", "a13579", "found a5", 1},
		{"a 0", "a", "found a0", 1},
		// None is asked for, or there is none.
		{"a 1 2 3", "a!", "nothing", 0},
		{"a 1 3", "a2", "nothing", 0},
		{"a", "a", "nothing", 0},
		{"a 1; b", "a b", "nothing", 1},
		{"a 1 2 3; b", "a b", "nothing", 3},
		{"a; b 1", "a b", "nothing", 0},
		// What is needed is picked, too, and nothing else.
		{"a 1(b); b 1; c 1", "a", "found a1 b1", 2},
		{"a 1(b); b 1(c); c 1(d); d 1 2", "a", "found a1 b1 c1 d2", 4},
		{"a 1(b) 2; b 1", "a", "found a2", 1},
		{"c 1(b); b 1(a); a 1", "c", "found a1 b1 c1", 3},
		// Names that need one another, or themselves.
		{"a 1(b); b 1(a)", "a", "found a1 b1", 2},
		{"a 1(a)", "a", "found a1", 1},
		{"a 1(a1) 2(a1)", "a", "found a1", 2},
		{"a 1 2(a1)", "a2", "nothing", 1},
		{"a 1(b2) 2(b1); b 1(a2) 2(a1)", "a", "found a2 b1", 2},
		{"a 1(b1) 2(b2); b 1(a2) 2(a1)", "a", "nothing", 4},
		// What was picked is not in what is asked of it then: the next version is tried.
		{"a 1 2; b 1(a1)", "a b", "found a1 b1", 4},
		{"a 1 2; b 1(a1) 2(a1) 3(a1)", "a b", "found a1 b3", 6},
		{"a 1 2; b 1 2(a1)", "a b", "found a2 b1", 3},
		{"a 1; b 1(a!)", "a b", "nothing", 2},
		// The dead end is a version of a, and not of what was picked last.
		{"a 1 2(d1); b 1 2; c 1 2; d 2", "a b c d", "found a1 b2 c2 d2", 7 + 4},
		// What is asked of a name is what all ask: root, and each release.
		{"a 1(c12); b 1(c23); c 1 2 3", "a b", "found a1 b1 c2", 3},
		{"a 1(c12); b 1(c23); c 1 2 3", "a b c13", "nothing", 2},
		{"a 1(c12) 2(c3); b 1(c23); c 1 2 3", "a b c12", "found a1 b1 c2", 5},
		// Those of a release that is not picked any more don't ask.
		{"a 1 2(b1,c!); b 1 2; c 1", "a b", "found a1 b2", 4},
		{"a 1 2(b); b", "a", "found a1", 2},
		{"a 1 2(b,c); b 1; c", "a", "found a1", 3},
		// The least name first, whoever needs it.
		{"a 1(d); b 1 2; c 1; d 1(b1)", "a b c", "found a1 b1 c1 d1", 1 + 3 + 3},
		{"b 1(a2) 2(a1); a 1 2", "b", "found a1 b2", 2},
		{"b 1(a2) 2(a1); a 1 2", "a b", "found a2 b1", 3},
		// What is lacked ends it, when its turn comes.
		{"a 1(b)", "a", "lacks b", 1},
		{"a 1 2(b)", "a", "lacks b", 1},
		{"a 1(b) 2", "a", "found a2", 1},
		{"a 1(c); b", "a b", "nothing", 1},
		{"a 1(b); c", "a c", "lacks b", 1},
		{"a 1(b!)", "a", "lacks b", 1},
		{"a 1(b,c); b 1(a!)", "a", "nothing", 2},
		{"a 1(b,c); b 1", "a", "lacks c", 2},
		{"a 1(b,c)", "a", "lacks b", 1},
		{"a 1 2(b,c); b", "a", "found a1", 2},
		{"a 1(d) 2(b,c); b; d 1(α)", "a", "lacks α", 3},
		// What is broken, and not root's, has no releases.
		{"a 1(b); b! 1", "a", "nothing", 1},
		{"a 1 2(b); b! 1", "a", "found a1", 2},
		{"a 1 2(b); b=a 1", "a", "found a1", 2},
		// Of root: first what is lacked, then what is broken.
		{"", "a", "lacks a", 0},
		{"", "a b c", "lacks a", 0},
		{"a 1", "a b c", "lacks b", 0},
		{"a 1; c 1", "a b! c", "lacks b", 0},
		{"a", "a! b", "lacks b", 0},
		{"a! 1", "a b", "lacks b", 0},
		{"a! 1; b 1", "a b", "broken a", 0},
		{"a 1; b! 1; c! 1", "a b c", "broken b", 0},
		{"a; b! 1", "a! b", "broken b", 0},
		{"a 1; b=a 1", "a b!", "broken b", 0},
		{"a 1(c); b! 1", "a b", "broken b", 0},
	} {
		x, root := toIndex(t, c.known), toNeeds(c.root)
		isTold(t, x, root, much, toTold(c.want))
		want, tried := asModel(t, x, root)
		if tried != c.tried {
			t.Errorf("of %q, asked %q, %v is told behind %d versions, not %d", c.known, c.root, want, tried, c.tried)
		}
		isTold(t, x, root, c.tried, toTold(c.want))
		if c.tried > 0 {
			isTold(t, x, root, c.tried-1, toTold("spent"))
		}
	}
}

// P17.1: fuel below 0 is 0, which is spent just if a version would be tried.
func TestFuel(t *testing.T) {
	for _, fuel := range []int{-1 << 63, -1000, -1, 0} {
		for _, c := range []struct{ known, root, want string }{
			{"", "", "found"}, {"", "a", "lacks a"}, {"a! 1", "a", "broken a"}, {"a", "a", "nothing"}, {"a 1", "a2", "nothing"}, {"a; b 1", "a b", "nothing"}, {"a 1", "a!", "nothing"},
			{"a 1", "a", "spent"}, {"a 1; b", "a b", "spent"}, {"a 1(b)", "a", "spent"},
		} {
			isTold(t, toIndex(t, c.known), toNeeds(c.root), fuel, toTold(c.want))
		}
	}
	// Three of a, and of each three of b; nothing is told but that the fuel is spent, till all were tried.
	x := toIndex(t, "a 1 2 3; b 1 2 3; c")
	for fuel := range 12 {
		isTold(t, x, toNeeds("a b c"), fuel, toTold("spent"))
	}
	for _, fuel := range []int{12, 13, 1000, 1<<63 - 1} {
		isTold(t, x, toNeeds("a b c"), fuel, toTold("nothing"))
	}
	// What ends the search behind the last version that may be tried is told.
	for _, c := range []struct {
		known, want string
	}{{"a 1", "found a1"}, {"a 1(b)", "lacks b"}, {"a 1(b); b", "nothing"}, {"a 1(b); b! 1", "nothing"}} {
		isTold(t, toIndex(t, c.known), toNeeds("a"), 1, toTold(c.want))
	}
}

// P17.1: as many releases, needs, spans and names of root as there may be, and the ends of places.
func TestMost(t *testing.T) {
	var all []api.Release
	for i := range 8 {
		all = append(all, rel(i*(top-1)/7))
	}
	x := knows(t, pack("a", all...), pack("b", rel(0), rel(top-1)))
	isTold(t, x, []api.Need{of("a", 0, top)}, 1, told{kind: api.Found, picks: []api.Pick{at("a", top-1)}})
	isTold(t, x, []api.Need{of("a", 0, 1)}, 1, told{kind: api.Found, picks: []api.Pick{at("a", 0)}})
	isTold(t, x, []api.Need{of("a", 0, top-1)}, 1, told{kind: api.Found, picks: []api.Pick{at("a", all[6].Ver)}})
	isTold(t, x, []api.Need{of("a", 1, 2, 3, 4, 5, 6, 7, 8, 9, 10, all[3].Ver, all[3].Ver+1)}, 1, told{kind: api.Found, picks: []api.Pick{at("a", all[3].Ver)}})
	isTold(t, x, []api.Need{of("b", 1, top-1)}, much, told{kind: api.Nothing})
	// Each of six needs of each of eight releases counts: just the release 4 needs a version that is there of all.
	for wrong := range 6 {
		m := pack("a")
		var l []api.Manifest
		for i := range 6 {
			l = append(l, pack(string(rune('b'+i)), rel(1)))
		}
		for ver := range 8 {
			r := rel(ver)
			for i := range 6 {
				n := of(string(rune('b'+i)), 1, 2)
				if i == wrong && ver != 4 {
					n = of(n.Name, 2, 3)
				}
				r.Needs = append(r.Needs, n)
			}
			m.Releases = append(m.Releases, r)
		}
		x := knows(t, append(l, m)...)
		isTold(t, x, toNeeds("a"), much, told{kind: api.Found, picks: toPicks("a4 b1 c1 d1 e1 f1 g1")})
		isTold(t, x, toNeeds("b c d e f g"), much, told{kind: api.Found, picks: toPicks("b1 c1 d1 e1 f1 g1")})
		asModel(t, x, toNeeds("a"))
	}
}

// P17.1: of a nil index, and one that knows nothing, each name is lacked.
func TestOfNothingKnown(t *testing.T) {
	for _, x := range []*index.Index{nil, {}, index.New()} {
		isTold(t, x, nil, 0, toTold("found"))
		isTold(t, x, toNeeds("a"), much, toTold("lacks a"))
		isTold(t, x, toNeeds("c! αω1"), 0, toTold("lacks c"))
	}
}

// wants are what may be needed by a release of a and b.
func wants() []string {
	return []string{"", "a", "a1", "b", "b1", "b2", "c", "a1,b", "b1,c"}
}

// P17.1, P17.3: all that releases of a and b may need, two each, with a c that is known, broken, empty, or not known.
func TestAllSmall(t *testing.T) {
	count := map[int]int{}
	l := wants()
	for i := range len(l) * len(l) * len(l) * len(l) {
		known := "a 1(" + l[i%9] + ") 2(" + l[i/9%9] + "); b 1(" + l[i/81%9] + ") 2(" + l[i/729] + ")"
		known = strings.ReplaceAll(known, "()", "")
		x := toIndex(t, known+[]string{"", ";c", ";c! 1", ";c 1", ";c 1(a2)"}[i%5])
		for _, root := range []string{"a", "a12 b", "b1", "a1 b2"} {
			want, _ := asModel(t, x, toNeeds(root))
			count[want.kind]++
			if reach.Whole(x, toNeeds(root)) {
				isPreferred(t, x, toNeeds(root), want.picks, toPicks("a1 a2 b1 b2 c1"))
			}
		}
	}
	if min(count[api.Found], count[api.Nothing], count[api.Lacks]) < 1000 {
		t.Errorf("there are told, by kinds, %v", count)
	}
}

// isPreferred fails, if of all solutions out of some picks, rising, another one is preferred: the newer one at the first name, in the order of the search, at which they part.
func isPreferred(t *testing.T, x *index.Index, root []api.Need, l, all []api.Pick) {
	t.Helper()
	var best []api.Pick
	some := false
	for bits := range 1 << len(all) {
		var one []api.Pick
		for i, p := range all {
			if bits>>i&1 == 1 {
				one = append(one, p)
			}
		}
		if fit.Solution(x, root, one) && (!some || newer(x, root, one, best)) {
			best, some = one, true
		}
	}
	if _, kind, _ := plain.Solve(x, root, much); kind == api.Found != some || kind == api.Nothing == some || !slices.Equal(best, l) {
		t.Fatalf("of %v, asked %v, told are %d, %v, but %v, %v is preferred", x, root, kind, l, some, best)
	}
}

// newer tells whether of two solutions the one is preferred to the other.
func newer(x *index.Index, root []api.Need, one, other []api.Pick) bool {
	m := modelOf(x, root)
	vers := map[string]int{}
	for name, ok := m.next(vers); ok; name, ok = m.next(vers) {
		is := func(p api.Pick) bool { return p.Name == name }
		a, b := one[slices.IndexFunc(one, is)], other[slices.IndexFunc(other, is)]
		if a.Ver != b.Ver {
			return a.Ver > b.Ver
		}
		vers[name] = a.Ver
	}
	return false
}

// P17.1: drawn indexes of more names.
func TestDrawn(t *testing.T) {
	draw := drawer(1)
	count, most := map[int]int{}, 0
	for i := range 6000 {
		names := letters(3 + i%12)
		x := drawnIndex(t, draw, names, 5+i%50)
		want, tried := asModel(t, x, drawnNeeds(draw, names, 5))
		count[want.kind]++
		most = max(most, tried)
		isTold(t, x, nil, 0, toTold("found"))
	}
	if min(count[api.Found], count[api.Nothing], count[api.Lacks], count[api.Broken]) < 300 || most < 100 {
		t.Errorf("there are told, by kinds, %v; %d versions were tried at most", count, most)
	}
}

// P17.3: what is found is a solution; of what is lacked something may be needed.
func TestWhatFollows(t *testing.T) {
	draw := drawer(2)
	found, lacks := 0, 0
	for i := range 6000 {
		names := letters(3 + i%12)
		x := drawnIndex(t, draw, names, 4+i%9)
		root := drawnNeeds(draw, names, 5)
		switch l, kind, name := plain.Solve(x, root, much); kind {
		case api.Found:
			found++
			if n, s := fit.Wrong(x, root, l); n != 0 {
				t.Fatalf("of %v, asked %v, %d, %q is wrong", l, root, n, s)
			}
		case api.Lacks:
			lacks++
			if !slices.Contains(reach.Missing(x, root), name) {
				t.Fatalf("asked %v, %q is not missing", root, name)
			}
		}
	}
	if found < 500 || lacks < 1000 {
		t.Errorf("%d are found, and %d lack something", found, lacks)
	}
}

// P17.3: what is found is found, and of nothing there is nothing, however much more is known; so it is of what is broken.
func TestMoreIsKnown(t *testing.T) {
	draw := drawer(3)
	names := letters(9)
	stood := map[int]int{}
	for range 2000 {
		x := index.New()
		root := drawnNeeds(draw, names, 4)
		order := slices.Clone(names)
		for i := range order {
			j := i + draw(len(order)-i)
			order[i], order[j] = order[j], order[i]
		}
		last, _ := asModel(t, x, root)
		for _, name := range order {
			puts(t, x, drawn(t, draw, name, names, 20))
			if last.kind == api.Lacks {
				last, _ = asModel(t, x, root)
				continue
			}
			isTold(t, x, root, much, last)
			stood[last.kind]++
		}
		if !reach.Whole(x, root) || last.kind == api.Lacks {
			t.Fatalf("asked %v, %v is told when all is known", root, last)
		}
	}
	if min(stood[api.Found], stood[api.Nothing], stood[api.Broken]) < 100 {
		t.Errorf("there stood, by kinds, %v", stood)
	}
}

// P17.3: if there is nothing to be found, there is no solution; else the one that is preferred is found.
func TestPreferred(t *testing.T) {
	draw := drawer(4)
	names := strings.Fields("a b c")
	some, none := 0, 0
	for range 1500 {
		x := index.New()
		var all []api.Pick
		for _, name := range names {
			puts(t, x, drawn(t, draw, name, names, 30))
			m, _ := x.Get(name)
			for _, r := range m.Releases {
				all = append(all, at(name, r.Ver))
			}
		}
		root := drawnNeeds(draw, names, 3)
		l, kind, _ := plain.Solve(x, root, much)
		if kind == api.Broken {
			continue
		}
		isPreferred(t, x, root, l, all)
		if kind == api.Found {
			some++
		} else {
			none++
		}
	}
	if some < 300 || none < 200 {
		t.Errorf("there are %d solutions, and %d times none", some, none)
	}
}
