package fit_test

import (
	"math"
	"slices"
	"strings"
	"testing"

	"comprador/api"
	"comprador/fit"
	"comprador/index"
)

// P16.1: the chapter's example.
func TestExample(t *testing.T) {
	x := toIndex(t, "a 5")
	isWrong(t, x, toNeeds("a"), toPicks("a5"), 0, "")
	isWrong(t, x, toNeeds("a"), nil, 2, "a")
}

// P16.1, by hand.
func TestWrong(t *testing.T) {
	for _, c := range []struct {
		known, root, picks string
		number             int
		name               string
	}{
		// nothing is asked for
		{"", "", "", 0, ""},
		{"a 1", "", "", 0, ""},
		{"a 1", "", "a1", 5, "a"},
		{"", "", "a1", 3, "a"},
		// 0: solutions
		{"a 1", "a", "a1", 0, ""},
		{"a 1 2", "a", "a1", 0, ""},
		{"a 1 2", "a", "a2", 0, ""},
		{"a 0", "a", "a0", 0, ""},
		{"a 1; b 1", "a b", "a1 b1", 0, ""},
		{"a 1(b); b 1", "a", "a1 b1", 0, ""},
		{"b 1(a); a 1", "b", "a1 b1", 0, ""},
		{"a 1(b); b 1(c); c 1", "a", "a1 b1 c1", 0, ""},
		{"c 1(b); b 1(a); a 1", "c", "a1 b1 c1", 0, ""},
		{"a 1(b); b 1(a)", "a", "a1 b1", 0, ""},
		{"a 1(b); b 1(a)", "b", "a1 b1", 0, ""},
		{"a 1(a)", "a", "a1", 0, ""},
		{"a 1(b,c); b 1(d2); c 1(d23); d 1 2 3", "a", "a1 b1 c1 d2", 0, ""},
		{"b 2; a 1 2(b1)", "a b", "a1 b2", 0, ""},
		{"b 2; a 1 2(b1)", "a b", "a2 b2", 4, "a"},
		{"a 1(b) 2(c); b 1; c 1", "a", "a1 b1", 0, ""},
		{"a 1(b) 2(c); b 1; c 1", "a", "a2 c1", 0, ""},
		{"m 1(a-,aa,α); a- 1; aa 1; α 1", "m", "a-1 aa1 m1 α1", 0, ""},
		// the newest one is not asked for
		{"a 1 2 3", "a", "a1", 0, ""},
		// a need that lacks nothing stays, beside others that are not known, or broken
		{"a 1; b! 1", "a", "a1", 0, ""},
		// 2: a need of root that is not met, as there is no pick
		{"", "a", "", 2, "a"},
		{"a 1", "a", "", 2, "a"},
		{"a 1; b 1", "a b", "", 2, "a"},
		{"a 1; b 1", "a b", "a1", 2, "b"},
		{"a 1; b 1", "a b", "b1", 2, "a"},
		{"a 1; b 1; c 1", "a b c", "a1 c1", 2, "b"},
		{"a 1; b 1; c 1", "a b c", "a1 b1", 2, "c"},
		{"a 1; b 1", "a", "b1", 2, "a"},
		{"a- 1; aa 1; α 1", "a aa", "aa1", 2, "a"},
		{"a 1; z 1; α 1", "z α", "z1", 2, "α"},
		{"a 1; z 1; α 1", "z α", "", 2, "z"},
		// 2: as its version is not among those that are needed
		{"a 1 2", "a1", "a2", 2, "a"},
		{"a 1 2", "a2", "a1", 2, "a"},
		{"a 1 2 3", "a13", "a2", 2, "a"},
		{"a 1 2 3", "a13", "a1", 0, ""},
		{"a 1 2 3", "a13", "a3", 0, ""},
		{"a 1", "a!", "a1", 2, "a"},
		{"a 1", "a!", "", 2, "a"},
		{"a 1 2; b 1 2", "a1 b1", "a1 b2", 2, "b"},
		{"a 1 2; b 1 2", "a1 b1", "a2 b1", 2, "a"},
		{"a 1 2; b 1 2", "a1 b1", "a2 b2", 2, "a"},
		// 3: there is no manifest, or no such release
		{"", "a", "a1", 3, "a"},
		{"a", "a", "a1", 3, "a"},
		{"a! 1", "a", "a1", 3, "a"},
		{"a=b 1", "a", "a1", 3, "a"},
		{"a=b 1; b 1", "a", "a1", 3, "a"},
		{"a 1 3", "a", "a2", 3, "a"},
		{"a 1 3", "a", "a0", 3, "a"},
		{"a 1 3", "a", "a4", 3, "a"},
		{"b 1", "a b", "a1 b1", 3, "a"},
		{"a 1", "a b", "a1 b1", 3, "b"},
		{"a 1; c 1", "a b c", "a1 b1 c1", 3, "b"},
		{"a 1(b); b! 1", "a", "a1 b1", 3, "b"},
		{"a 1(b); b 1 3", "a", "a1 b2", 3, "b"},
		{"a 2; b 2; c 2", "a b c", "a2 b1 c1", 3, "b"},
		{"a 2; b 1", "a b", "a1 b2", 3, "a"},
		// 4: a need of a pick's release is not met: the pick is told, not what it needs
		{"a 1(b); b 1", "a", "a1", 4, "a"},
		{"a 1(b)", "a", "a1", 4, "a"},
		{"b 1(a); a 1", "b", "b1", 4, "b"},
		{"a 1(b1); b 1 2", "a", "a1 b2", 4, "a"},
		{"a 1(b!); b 1", "a", "a1 b1", 4, "a"},
		{"a 1(b!)", "a", "a1", 4, "a"},
		{"a 1(a2) 2", "a", "a1", 4, "a"},
		{"a 1(b,c); b 1; c 1", "a", "a1 b1", 4, "a"},
		{"a 1(b,c); b 1; c 1", "a", "a1 c1", 4, "a"},
		{"a 1(b); b 1(c); c 1", "a", "a1 b1", 4, "b"},
		{"a 1(b); b 1(c); c 1", "a", "a1 c1", 4, "a"},
		{"a 1; b 1(z); c 1(z)", "a b c", "a1 b1 c1", 4, "b"},
		{"a 1; b 1(a); c 1(z)", "a b c", "a1 b1 c1", 4, "c"},
		{"a 1(c1); b 1(c2); c 1 2", "a b", "a1 b1 c1", 4, "b"},
		{"a 1(c1); b 1(c2); c 1 2", "a b", "a1 b1 c2", 4, "a"},
		{"a 1(c1); b 1(c2); c 1 2 3", "a b", "a1 b1 c3", 4, "a"},
		{"a 1(b1); b 1(a2) 2", "a", "a1 b1", 4, "b"},
		{"a 1(b) 2", "a", "a1", 4, "a"},
		{"a 1(b) 2", "a", "a2", 0, ""},
		// what other releases need is not asked for
		{"a 1 2(b); b 1", "a", "a1", 0, ""},
		{"a 1 2(b); b 1", "a", "a2", 4, "a"},
		// 4: of picks that are not needed, too
		{"a 1; b 1(c)", "a", "a1 b1", 4, "b"},
		{"a 1(b1); b 1", "", "a1", 4, "a"},
		// 5: a pick that is not needed
		{"a 1; b 1", "a", "a1 b1", 5, "b"},
		{"a 1; b 1", "b", "a1 b1", 5, "a"},
		{"a 1; b 1; c 1", "b", "a1 b1 c1", 5, "a"},
		{"a 1; b 1; c 1", "a", "a1 b1 c1", 5, "b"},
		{"a 1 2(b); b 1", "a", "a1 b1", 5, "b"},
		{"a 1; b 1(a)", "a", "a1 b1", 5, "b"},
		{"a 1; b 1(c); c 1(b)", "a", "a1 b1 c1", 5, "b"},
		{"a 1; b 1(b)", "a", "a1 b1", 5, "b"},
		{"a 1(b); b 1(a); c 1", "c", "a1 b1 c1", 5, "a"},
		{"a 1; b 1(c); c 1", "a", "a1 b1 c1", 5, "b"},
		{"a 1; b 1(c); c 1", "a c", "a1 b1 c1", 5, "b"},
		{"z 1; α 1", "z", "z1 α1", 5, "α"},
	} {
		isWrong(t, toIndex(t, c.known), toNeeds(c.root), toPicks(c.picks), c.number, c.name)
		asModel(t, toIndex(t, c.known), toNeeds(c.root), toPicks(c.picks))
	}
}

// P16.1: of some that are not so, the first one is told, whatever its name is: of those that are broken here the names fall.
func TestFirstIsTold(t *testing.T) {
	x := toIndex(t, "b 1; e 1; m 1; s 1(m2)")
	for broken := range 32 {
		root, l := toNeeds("e"), toPicks("e1")
		number, name := 0, ""
		if broken&16 != 0 {
			l = append(toPicks("b1"), l...)
			number, name = 5, "b"
		}
		if broken&8 != 0 {
			root, l = append(root, toNeed("s")), append(l, toPicks("m1 s1")...)
			number, name = 4, "s"
		}
		if broken&4 != 0 {
			root, l = append(root, toNeed("t")), append(l, at("t", 1))
			number, name = 3, "t"
		}
		if broken&2 != 0 {
			root = append(root, toNeed("x"))
			number, name = 2, "x"
		}
		if broken&1 != 0 {
			l = append(l, at("a", 1))
			number, name = 1, ""
		}
		isWrong(t, x, root, l, number, name)
	}
}

// P16.1: picks that may not be are wrong by 1, without a name, whatever is asked for, and known.
func TestPicksThatMayNotBe(t *testing.T) {
	long := strings.Repeat("a", 13)
	for _, l := range [][]api.Pick{
		{{}}, {at("", 1)}, {at("A", 1)}, {at("1a", 1)}, {at("-a", 1)}, {at("a_", 1)}, {at("a ", 1)}, {at("é", 1)}, {at("\xff", 1)}, {at(long, 1)},
		{at("a", -1)}, {at("a", top)}, {at("a", top+1)}, {at("a", math.MinInt)}, {at("a", math.MaxInt)}, {at("a", 1<<32+1)},
		{at("a", 1), at("a", 1)}, {at("a", 1), at("a", 2)}, {at("b", 1), at("a", 1)}, {at("a", 1), at("c", 1), at("b", 1)}, {at("α", 1), at("a", 1)},
		{at("a", 1), {}}, {{}, at("a", 1)}, {at("a", 1), at("b", -1)}, {at("a", 1), at("b", top)}, {at("a", 1), at("b", 1), at(long, 1)},
	} {
		for _, x := range []*index.Index{nil, index.New(), toIndex(t, "a 1"), toIndex(t, "a 1(b); b 1; c 1"), toIndex(t, "a 1(z); b! 1")} {
			for _, root := range []string{"", "a", "a b c", "a!", "z"} {
				isWrong(t, x, toNeeds(root), l, 1, "")
			}
		}
	}
}

// P16.1: the versions of a need are just those of its spans, however many there are.
func TestVersionsThatMeet(t *testing.T) {
	in := of("b", 0, 1, 2, 4, 10, 20, 1000000, 2000000, 5000000, 5000001, 999999998, 999999999)
	for _, ver := range []int{0, 1, 2, 3, 4, 9, 10, 15, 19, 20, 999999, 1000000, 1999999, 2000000, 4999999, 5000000, 5000001, 999999997, 999999998, 999999999} {
		meets := slices.ContainsFunc(in.In, func(s api.Span) bool { return s.Lo <= ver && ver < s.Hi })
		x := knows(t, pack("a", rel(7, in)), pack("b", rel(ver)))
		two := []api.Pick{at("a", 7), at("b", ver)}
		if meets {
			isWrong(t, x, []api.Need{in}, two[1:], 0, "")
			isWrong(t, x, toNeeds("a"), two, 0, "")
		} else {
			isWrong(t, x, []api.Need{in}, two[1:], 2, "b")
			isWrong(t, x, toNeeds("a"), two, 4, "a")
		}
		isWrong(t, x, []api.Need{of("b", 0, top)}, two[1:], 0, "")
		if ver > 0 && ver < top-1 {
			isWrong(t, x, []api.Need{of("b", 0, ver, ver+1, top)}, two[1:], 2, "b")
		}
	}
}

// P16.1: each release counts, of as many as there may be, and each of its needs.
func TestEachNeedOfEachRelease(t *testing.T) {
	names := letters(48)
	m := pack("m")
	all := []api.Manifest{}
	for i := range 8 {
		var needs []api.Need
		for j, name := range names[i*6 : i*6+6] {
			needs = append(needs, of(name, j, j+1))
			all = append(all, pack(name, rel(j), rel(j+1)))
		}
		m.Releases = append(m.Releases, rel(i*100, needs...))
	}
	x := knows(t, append(all, m)...)
	for i := range 8 {
		var l []api.Pick
		for j, name := range names[i*6 : i*6+6] {
			l = append(l, at(name, j))
		}
		l = append(l, at("m", i*100))
		isWrong(t, x, toNeeds("m"), l, 0, "")
		isNeeded(t, x, toNeeds("m"), l, append(slices.Clone(names[i*6:i*6+6]), "m"))
		for j := range 6 {
			isWrong(t, x, toNeeds("m"), slices.Delete(slices.Clone(l), j, j+1), 4, "m")
			other := slices.Clone(l)
			other[j].Ver++
			isWrong(t, x, toNeeds("m"), other, 4, "m")
			other[j].Ver++
			isWrong(t, x, toNeeds("m"), other, 3, other[j].Name)
		}
		l[6].Ver++
		isWrong(t, x, toNeeds("m"), l, 3, "m")
	}
}

// P16.1: each need of root counts, of as many as there may be.
func TestEachNeedOfRoot(t *testing.T) {
	const known = "a 1 2; b 1 2; c 1 2; d 1 2; e 1 2; f 1 2"
	x := toIndex(t, known)
	names := strings.Fields("a b c d e f")
	for asked := range 64 {
		for picked := range 64 {
			var root []api.Need
			var l []api.Pick
			number, name := 0, ""
			for i, s := range names {
				if asked>>i&1 == 1 {
					root = append(root, toNeed(s+"1"))
				}
				if picked>>i&1 == 1 {
					l = append(l, at(s, 1))
				}
				switch {
				case asked>>i&1 == 1 && picked>>i&1 == 0 && number != 2:
					number, name = 2, s
				case asked>>i&1 == 0 && picked>>i&1 == 1 && number == 0:
					number, name = 5, s
				}
			}
			isWrong(t, x, root, l, number, name)
		}
	}
	for i, name := range names {
		l := toPicks("a1 b1 c1 d1 e1 f1")
		l[i].Ver = 2
		isWrong(t, x, toNeeds("a1 b1 c1 d1 e1 f1"), l, 2, name)
	}
}

// P16.1: of each one, and each two, of some names the least is told, byte by byte.
func TestLeastNames(t *testing.T) {
	names := strings.Fields("a a- a0 aa z α αa")
	var picks []api.Pick
	for _, name := range names {
		picks = append(picks, at(name, 5))
	}
	for i, least := range names {
		for _, other := range names[i:] {
			plain, fewer, unmet := index.New(), index.New(), index.New()
			var asked, rest []api.Need
			for _, name := range names {
				free := api.Entry{Name: name, Body: body(t, pack(name, rel(5)))}
				needs := api.Entry{Name: name, Body: body(t, pack(name, rel(5, of("ω", 0, top))))}
				puts(t, plain, free)
				if name == least || name == other {
					asked = append(asked, of(name, 0, 5, 6, top))
					puts(t, unmet, needs)
				} else {
					rest = append(rest, of(name, 0, top))
					puts(t, fewer, free)
					puts(t, unmet, free)
				}
			}
			isWrong(t, plain, asked, picks, 2, least)
			isWrong(t, fewer, rest, picks, 3, least)
			isWrong(t, unmet, rest, picks, 4, least)
			isWrong(t, plain, rest, picks, 5, least)
		}
	}
}

// P16.1: of a nil index, and of one that knows nothing, there are no releases.
func TestOfNothingKnown(t *testing.T) {
	for _, x := range []*index.Index{nil, {}, index.New(), index.Of(nil), index.New().Clone(), toIndex(t, "a! 1; b")} {
		isWrong(t, x, nil, nil, 0, "")
		isWrong(t, x, toNeeds("a"), nil, 2, "a")
		isWrong(t, x, toNeeds("a b"), toPicks("a1"), 2, "b")
		isWrong(t, x, toNeeds("a b"), toPicks("a1 b1"), 3, "a")
		isWrong(t, x, nil, toPicks("b1"), 3, "b")
		isNeeded(t, x, toNeeds("a b"), toPicks("a1 b1"), []string{"a", "b"})
		isNeeded(t, x, nil, toPicks("a1 b1"), nil)
	}
}

// P16.1: all picks of three names, by all that may be asked for of them, of drawn indexes.
func TestAllPicks(t *testing.T) {
	draw := drawer(1)
	names := strings.Fields("a b c")
	count := [6]int{}
	for range 80 {
		x := index.New()
		for _, name := range names {
			if draw(8) > 0 {
				puts(t, x, drawn(t, draw, name, names))
			}
		}
		for asked := range 64 {
			root := toNeeds(strings.Join([]string{[]string{"", "a", "a1", "a23"}[asked%4], []string{"", "b", "b2", "b12"}[asked/4%4], []string{"", "c", "c3", "c!"}[asked/16]}, " "))
			for some := range 64 {
				var l []api.Pick
				for i, name := range names {
					if ver := some >> (2 * i) % 4; ver > 0 {
						l = append(l, at(name, ver))
					}
				}
				count[asModel(t, x, root, l)]++
			}
		}
	}
	if slices.Min(slices.Concat(count[:1], count[2:])) < 1000 || count[1] != 0 {
		t.Errorf("there are wrong, by numbers, %v", count)
	}
}

// P16.1: drawn picks of many names: with what is needed put in, one by one, so that some are solutions.
func TestDrawnPicks(t *testing.T) {
	draw := drawer(2)
	names := letters(24)
	count, sizes := [6]int{}, map[int]bool{}
	for range 6000 {
		x, l, root := solved(t, draw, names)
		if number := asModel(t, x, root, l); number == 0 {
			count[0]++
			sizes[len(l)] = true
		}
		for range 3 {
			count[asModel(t, x, root, bent(draw, names, l))]++
		}
	}
	if slices.Min(slices.Concat(count[:1], count[2:])) < 300 || len(sizes) < 8 {
		t.Errorf("there are wrong, by numbers, %v; solutions have %d sizes", count, len(sizes))
	}
}

// solved is a drawn index, and picks of what is needed, each in the first version that meets what asked for it first: often they are a solution.
func solved(t *testing.T, draw func(int) int, names []string) (*index.Index, []api.Pick, []api.Need) {
	t.Helper()
	x := index.New()
	for _, name := range names {
		if draw(12) > 0 {
			puts(t, x, drawn(t, draw, name, names))
		}
	}
	root := drawnNeeds(draw, names, 4)
	in := map[string]int{}
	for todo := root; len(todo) > 0; todo = todo[1:] {
		m, _ := x.Get(todo[0].Name)
		if _, ok := in[m.Name]; ok {
			continue
		}
		for _, r := range m.Releases {
			if slices.ContainsFunc(todo[0].In, func(s api.Span) bool { return s.Lo <= r.Ver && r.Ver < s.Hi }) {
				in[m.Name] = r.Ver
				todo = append(slices.Clone(todo), r.Needs...)
				break
			}
		}
	}
	var l []api.Pick
	for name, ver := range in {
		l = append(l, at(name, ver))
	}
	slices.SortFunc(l, func(a, b api.Pick) int { return strings.Compare(a.Name, b.Name) })
	return x, l, root
}

// bent are picks of which one is gone, or is in another version, or with one that was not there.
func bent(draw func(int) int, names []string, l []api.Pick) []api.Pick {
	l = slices.Clone(l)
	if name := names[draw(len(names))]; draw(3) == 0 || len(l) == 0 {
		if !slices.ContainsFunc(l, func(p api.Pick) bool { return p.Name == name }) {
			l = append(l, at(name, 1+draw(3)))
		}
		slices.SortFunc(l, func(a, b api.Pick) int { return strings.Compare(a.Name, b.Name) })
		return l
	}
	if i := draw(len(l)); draw(2) == 0 {
		l[i].Ver = 1 + draw(3)
	} else {
		l = slices.Delete(l, i, i+1)
	}
	return l
}

// P16.2: a solution is one, whatever else becomes known.
func TestMoreIsKnown(t *testing.T) {
	draw := drawer(3)
	names := letters(16)
	stood := 0
	for range 2500 {
		whole, l, root := solved(t, draw, names)
		if !fit.Solution(whole, root, l) {
			continue
		}
		// Of what is known just the picks' manifests are put, and then the others, one by one.
		x := index.New()
		for _, p := range l {
			m, _ := whole.Get(p.Name)
			puts(t, x, api.Entry{Name: m.Name, Body: body(t, m)})
		}
		needed := fit.Needed(x, root, l)
		for _, name := range append(slices.Clone(names), "z") {
			isWrong(t, x, root, l, 0, "")
			isNeeded(t, x, root, l, needed)
			if !x.Has(name) {
				puts(t, x, drawn(t, draw, name, names))
				stood++
			}
		}
		isWrong(t, x, root, l, 0, "")
	}
	if stood < 5000 {
		t.Errorf("just %d times more was known", stood)
	}
}

// P16.2: of a solution the names are just those that are needed, and without any of its picks it is none.
func TestNamesOfSolutions(t *testing.T) {
	draw := drawer(4)
	names := letters(16)
	solutions, without := 0, 0
	for range 6000 {
		x, l, root := solved(t, draw, names)
		if !fit.Solution(x, root, l) {
			continue
		}
		solutions++
		var have []string
		for i, p := range l {
			have = append(have, p.Name)
			less := slices.Delete(slices.Clone(l), i, i+1)
			if fit.Solution(x, root, less) {
				t.Fatalf("of %v, asked %v, %v, too, is a solution", l, root, less)
			}
			without++
		}
		isNeeded(t, x, root, l, have)
	}
	if solutions < 1500 || without < 1200 {
		t.Errorf("there are just %d solutions, and %d without a pick", solutions, without)
	}
}
