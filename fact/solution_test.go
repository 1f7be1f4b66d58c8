package fact_test

import (
	"slices"
	"strings"
	"testing"

	"comprador/api"
	"comprador/clash"
	"comprador/fact"
	"comprador/fit"
	"comprador/index"
)

// holding is the step of the first fact that holds of picks, of root and of some packages, and true.
func holding(x *index.Index, root []api.Need, names []string, l []api.Pick) (api.Step, bool) {
	facts, steps := fact.Root(root)
	for _, name := range names {
		more, by := fact.All(x, name)
		facts, steps = append(facts, more...), append(steps, by...)
	}
	for i, c := range facts {
		if clash.Holds(c, l) {
			return steps[i], true
		}
	}
	return api.Step{}, false
}

// choices are all picks of some names, in versions of 0 to 4.
func choices(names []string) [][]api.Pick {
	l := [][]api.Pick{nil}
	for _, name := range names {
		for _, p := range slices.Clone(l) {
			for ver := range 5 {
				l = append(l, append(slices.Clone(p), api.Pick{Name: name, Ver: ver}))
			}
		}
	}
	return l
}

// picked are the names of picks.
func picked(l []api.Pick) []string {
	var names []string
	for _, p := range l {
		names = append(names, p.Name)
	}
	return names
}

// P20.3: of a solution no fact holds; and of picks of which none holds, of packages that are known, nothing but rule 5 is wrong.
func TestOfSolutions(t *testing.T) {
	draw := drawer(203)
	names := strings.Fields("a b c")
	some := choices(names)
	solutions, wrong := 0, [6]int{}
	for range 400 {
		x := drawnIndex(t, draw, names)
		root := drawnNeeds(draw, names, 2)
		for _, l := range some {
			number, _ := fit.Wrong(x, root, l)
			if number == 0 {
				solutions++
				if s, ok := holding(x, root, x.Names(), l); ok {
					t.Fatalf("asked %v, of the solution %v the fact of %v holds", root, l, s)
				}
			}
			if slices.ContainsFunc(picked(l), func(name string) bool { return !x.Has(name) }) {
				continue
			}
			wrong[number]++
			s, ok := holding(x, root, picked(l), l)
			if !ok && number != 0 && number != 5 {
				t.Fatalf("asked %v, no fact holds of %v, which are wrong by %d", root, l, number)
			}
			if ok && (number == 0 || number == 5) {
				t.Fatalf("asked %v, of %v, which are wrong by %d, the fact of %v holds", root, l, number, s)
			}
		}
	}
	if solutions < 100 || wrong[2] < 100 || wrong[3] < 100 || wrong[4] < 100 || wrong[5] < 100 {
		t.Errorf("there were %d solutions, and of the others %v", solutions, wrong)
	}
}

// P20.3, by hand: which fact holds of picks that are no solution.
func TestOfNoSolutions(t *testing.T) {
	for _, c := range []struct{ known, root, picks, want string }{
		{"a 1", "a", "", "asked a"},
		{"a 1 2", "a1", "a2", "asked a"},
		{"a 1", "a!", "a1", "asked a"},
		{"a 1", "a", "a2", "released a"},
		{"a! 1", "a", "a1", "released a"},
		{"a", "a", "a1", "released a"},
		{"a 1(b); b 1", "a", "a1", "needed a1 b"},
		{"a 1(b1); b 1 2", "a", "a1 b2", "needed a1 b"},
		{"a 1(b!); b 1 2", "a", "a1 b2", "needed a1 b"},
		{"a 1(a2) 2", "a", "a1", "needed a1 a"},
		// no fact: solutions, and picks that are not needed
		{"a 1(a1)", "a", "a1", ""},
		{"a 1(b1); b 1 2", "a", "a1 b1", ""},
		{"a 1; b 1", "a", "a1 b1", ""},
		{"a! 1; b 1", "b", "b1", ""},
		{"", "", "", ""},
	} {
		var l []api.Pick
		for _, piece := range strings.Fields(c.picks) {
			name, vers := parts(piece)
			l = append(l, api.Pick{Name: name, Ver: vers[0]})
		}
		x := toIndex(t, c.known)
		got, ok := holding(x, toNeeds(c.root), x.Names(), l)
		if ok != (c.want != "") || ok && got != toStep(c.want) {
			t.Errorf("of %s, asked %s, and picks %s the fact of %v holds: %v", c.known, c.root, c.picks, got, ok)
		}
	}
}
