package fact_test

import (
	"slices"
	"strings"
	"testing"

	"comprador/api"
	"comprador/clash"
	"comprador/fact"
	"comprador/index"
)

// P20.2, by hand.
func TestRoot(t *testing.T) {
	for _, c := range []struct{ root, want string }{
		{"", ""},
		{"a", "-a: asked a"},
		{"a1", "-a1: asked a"},
		{"a!", ": asked a"},
		{"a1 b", "-a1: asked a; -b: asked b"},
		{"a! b!", ": asked a; : asked b"},
		{"a b! c13", "-a: asked a; : asked b; -c13: asked c"},
		{"a a- aa z α", "-a: asked a; -a-: asked a-; -aa: asked aa; -z: asked z; -α: asked α"},
		{"a0 b1 c2 d3 e4 f5", "-a0: asked a; -b1: asked b; -c2: asked c; -d3: asked d; -e4: asked e; -f5: asked f"},
	} {
		facts, steps := fact.Root(toNeeds(c.root))
		want, by := toFacts(c.want)
		are(t, "Root of "+c.root, facts, steps, want, by)
	}
	facts, steps := fact.Root([]api.Need{})
	are(t, "Root of an empty list", facts, steps, nil, nil)
}

// P20.2, by hand.
func TestAll(t *testing.T) {
	for _, c := range []struct{ known, name, want string }{
		// not known
		{"", "a", ""},
		{"b 1(a)", "a", ""},
		{"aa 1", "a", ""},
		{"a 1", "", ""},
		{"a 1", "A", ""},
		{"a=b 1(c)", "b", ""},
		// broken, and without releases
		{"a! 1(b)", "a", "a: released a"},
		{"a=b 1(c)", "a", "a: released a"},
		{"a", "a", "a: released a"},
		// that of its releases first, and those of its releases' needs, in order
		{"a 1", "a", "-a1?: released a"},
		{"a 1 2", "a", "-a12?: released a"},
		{"a 1(b)", "a", "-a1?: released a; a1 -b: needed a1 b"},
		{"a 1(b2,c!)", "a", "-a1?: released a; a1 -b2: needed a1 b; a1: needed a1 c"},
		{"a 0 1(b) 2 3(b)", "a", "-a0123?: released a; a1 -b: needed a1 b; a3 -b: needed a3 b"},
		{"a 1(c) 2(b)", "a", "-a12?: released a; a1 -c: needed a1 c; a2 -b: needed a2 b"},
		{"m 1(a,b2,z) 3(z)", "m", "-m13?: released m; -a m1: needed m1 a; -b2 m1: needed m1 b; m1 -z: needed m1 z; m3 -z: needed m3 z"},
		{"a 1(b,c,d,e,f,g)", "a", "-a1?: released a; a1 -b: needed a1 b; a1 -c: needed a1 c; a1 -d: needed a1 d; a1 -e: needed a1 e; a1 -f: needed a1 f; a1 -g: needed a1 g"},
		{"α 1(α2,ω) 2(z)", "α", "-α12?: released α; α1: needed α1 α; α1 -ω: needed α1 ω; -z α2: needed α2 z"},
		// but such as come to none
		{"a 1(a)", "a", "-a1?: released a"},
		{"a 1(a1,b)", "a", "-a1?: released a; a1 -b: needed a1 b"},
		{"b 1(a,b,c) 2(a,b1,c) 3(b3) 4(b!)", "b", "-b1234?: released b; -a b1: needed b1 a; b1 -c: needed b1 c; -a b2: needed b2 a; b2: needed b2 b; b2 -c: needed b2 c; b4: needed b4 b"},
		// of that package alone
		{"a 1(b); b 1(c); c 1(a)", "b", "-b1?: released b; b1 -c: needed b1 c"},
	} {
		facts, steps := fact.All(toIndex(t, c.known), c.name)
		want, by := toFacts(c.want)
		are(t, "All of "+c.known+", "+c.name, facts, steps, want, by)
	}
}

// P20.2: of a manifest that has as much of all as there may be.
func TestAllOfFull(t *testing.T) {
	m := full()
	x := knows(t, m)
	facts, steps := fact.All(x, "a")
	var own int
	for _, s := range steps {
		if s.To == "a" {
			own++
		}
	}
	// The releases of 200, 400, and so on may be met by themselves: that is one in two.
	if len(facts) != 1+8*5+4 || own != 4 {
		t.Fatalf("there are %d facts, %d of the package's own", len(facts), own)
	}
	asFound(t, x, "a", facts, steps)
}

// asFound fails, if the facts of a package, and their steps, are not those that are found by asking for all there might be.
func asFound(t *testing.T, x *index.Index, name string, facts [][]api.Term, steps []api.Step) {
	t.Helper()
	var want [][]api.Term
	var by []api.Step
	add := func(c []api.Term, ok bool, s api.Step) {
		if ok {
			want, by = append(want, c), append(by, s)
		}
	}
	c, ok := fact.Released(x, name)
	add(c, ok, api.Step{Kind: api.Released, Name: name})
	m, _ := x.Get(name)
	for _, r := range m.Releases {
		for _, n := range r.Needs {
			c, ok := fact.Needed(x, name, r.Ver, n.Name)
			add(c, ok, api.Step{Kind: api.Needed, Name: name, Ver: r.Ver, To: n.Name})
		}
	}
	are(t, "All of "+name, facts, steps, want, by)
}

// states are those of a package whose versions are 0 to 3: in each, in one behind all, and, as -1, not chosen.
var states = []int{-1, 0, 1, 2, 3, 4, top - 1}

// has tells whether a set has a version: none has -1.
func has(l []api.Span, ver int) bool {
	return slices.ContainsFunc(l, func(s api.Span) bool { return s.Lo <= ver && ver < s.Hi })
}

// bad tells what a step says of how things are, where one package has one state, and another one another: whether that may not be.
func bad(x *index.Index, root []api.Need, s api.Step, state, other int) bool {
	m, _ := x.Get(s.Name)
	in := func(l []api.Need, name string) []api.Span {
		return l[slices.IndexFunc(l, func(n api.Need) bool { return n.Name == name })].In
	}
	at := slices.IndexFunc(m.Releases, func(r api.Release) bool { return r.Ver == state })
	switch s.Kind {
	case api.Asked:
		return !has(in(root, s.Name), state)
	case api.Released:
		return state >= 0 && at < 0
	}
	return state == s.Ver && !has(in(m.Releases[at].Needs, s.To), other)
}

// saysAs fails, if a fact is no clash, or holds where what its step says is so, or the other way round.
func saysAs(t *testing.T, x *index.Index, root []api.Need, c []api.Term, s api.Step) {
	t.Helper()
	to := s.To
	if s.Kind != api.Needed {
		to = "ω"
	}
	if !clash.Check(c) {
		t.Fatalf("the fact %v of %v may not be", c, s)
	}
	for _, state := range states {
		for _, other := range states {
			if to == s.Name && state != other {
				continue
			}
			var l []api.Pick
			if state >= 0 {
				l = append(l, api.Pick{Name: s.Name, Ver: state})
			}
			if other >= 0 && to != s.Name {
				l = append(l, api.Pick{Name: to, Ver: other})
			}
			slices.SortFunc(l, func(a, b api.Pick) int { return strings.Compare(a.Name, b.Name) })
			if got := clash.Holds(c, l); got != bad(x, root, s, state, other) {
				t.Fatalf("the fact %v of %v holds of %v: %v", c, s, l, got)
			}
		}
	}
}

// P20.1, P20.2: of drawn indexes and needs each fact says what its step does, is found by asking for it, and none is left out but such as can't be.
func TestOfDrawn(t *testing.T) {
	draw := drawer(20)
	names := strings.Fields("a b c d")
	counts := map[int]int{}
	for range 3000 {
		x := drawnIndex(t, draw, names)
		root := drawnNeeds(draw, names, 3)
		facts, steps := fact.Root(root)
		if len(facts) != len(root) || len(steps) != len(root) {
			t.Fatalf("of %v there are %v, %v", root, facts, steps)
		}
		for i, c := range facts {
			if want := (api.Step{Kind: api.Asked, Name: root[i].Name}); steps[i] != want {
				t.Fatalf("of %v the step %d is %v", root, i, steps[i])
			}
			got, ok := fact.Asked(root, root[i].Name)
			is(t, "Asked of "+root[i].Name, got, ok, c, true)
			saysAs(t, x, root, c, steps[i])
			counts[api.Asked]++
		}
		for _, name := range names {
			facts, steps := fact.All(x, name)
			asFound(t, x, name, facts, steps)
			for i, c := range facts {
				saysAs(t, x, root, c, steps[i])
				counts[steps[i].Kind]++
			}
			m, _ := x.Get(name)
			for _, r := range m.Releases {
				for _, n := range r.Needs {
					_, ok := fact.Needed(x, name, r.Ver, n.Name)
					if can := n.Name != name || !has(n.In, r.Ver); ok != can {
						t.Fatalf("of %v in %d, and %v, there is a fact: %v", name, r.Ver, n, ok)
					}
				}
			}
		}
	}
	if counts[api.Asked] < 1000 || counts[api.Released] < 1000 || counts[api.Needed] < 1000 {
		t.Errorf("there were %v facts", counts)
	}
}
