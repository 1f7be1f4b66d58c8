package pick_test

import (
	"maps"
	"slices"
	"testing"

	"comprador/api"
	"comprador/pick"
)

// probes are names that are looked for: those of some picks, those beside them, and such as may not be.
func probes(l []api.Pick) []string {
	names := []string{"", "A", "\xff", "a b", "a", "b", "z", "ω", "ωωωωωωωωωωωω", "zzzzzzzzzzzz"}
	for _, p := range l {
		names = append(names, p.Name, p.Name+"-", p.Name+"a", p.Name[:len(p.Name)-1], " "+p.Name)
	}
	return names
}

// mapped are picks by their names.
func mapped(l []api.Pick) map[string]int {
	m := map[string]int{}
	for _, p := range l {
		m[p.Name] = p.Ver
	}
	return m
}

// listed are picks of a map, by rising names.
func listed(m map[string]int) []api.Pick {
	var l []api.Pick
	for _, name := range slices.Sorted(maps.Keys(m)) {
		l = append(l, of(name, m[name]))
	}
	return l
}

// gets fails, if of a name another version is told than a map has.
func gets(t *testing.T, l []api.Pick, m map[string]int, name string) {
	t.Helper()
	want, has := m[name]
	if got, ok := pick.Get(l, name); got != want || ok != has {
		t.Fatalf("Get(%.200v, %q) = %d, %v, not %d, %v", l, name, got, ok, want, has)
	}
}

// puts fails, if of a pick that is put other picks come than of a map.
func puts(t *testing.T, l []api.Pick, p api.Pick) []api.Pick {
	t.Helper()
	m := mapped(l)
	m[p.Name] = p.Ver
	got := pick.Put(l, p)
	if want := listed(m); !alike(got, want) {
		t.Fatalf("Put(%.200v, %v) = %.200v, not %.200v", l, p, got, want)
	}
	return got
}

// drops fails, if of a name that is dropped other picks come than of a map.
func drops(t *testing.T, l []api.Pick, name string) []api.Pick {
	t.Helper()
	m := mapped(l)
	delete(m, name)
	got := pick.Drop(l, name)
	if want := listed(m); !alike(got, want) {
		t.Fatalf("Drop(%.200v, %q) = %.200v, not %.200v", l, name, got, want)
	}
	return got
}

// P15.1
func TestGet(t *testing.T) {
	three := list(of("a", 5), of("b", 0), of("α", 999999999))
	for _, c := range []struct {
		l    []api.Pick
		name string
		want int
		ok   bool
	}{
		{three, "a", 5, true}, {three, "b", 0, true}, {three, "α", 999999999, true},
		{three, "c", 0, false}, {three, "", 0, false}, {three, "A", 0, false}, {three, "a ", 0, false}, {three, " a", 0, false}, {three, "aa", 0, false}, {three, "β", 0, false}, {three, "\xce", 0, false}, {three, "\xff", 0, false},
		{nil, "a", 0, false}, {nil, "", 0, false}, {[]api.Pick{}, "a", 0, false},
		{three[:1], "a", 5, true}, {three[:1], "b", 0, false}, {three[1:2], "a", 0, false}, {three[1:2], "b", 0, true}, {three[1:2], "α", 0, false}, {three[:0], "a", 0, false},
	} {
		if got, ok := pick.Get(c.l, c.name); got != c.want || ok != c.ok {
			t.Errorf("Get(%v, %q) = %d, %v", c.l, c.name, got, ok)
		}
	}
}

// P15.1
func TestPut(t *testing.T) {
	for _, c := range []struct {
		l    []api.Pick
		p    api.Pick
		want []api.Pick
	}{
		{nil, of("a", 5), list(of("a", 5))}, {[]api.Pick{}, of("a", 0), list(of("a", 0))},
		// ahead, between, behind
		{list(of("b", 1), of("d", 2)), of("a", 5), list(of("a", 5), of("b", 1), of("d", 2))},
		{list(of("b", 1), of("d", 2)), of("c", 5), list(of("b", 1), of("c", 5), of("d", 2))},
		{list(of("b", 1), of("d", 2)), of("e", 5), list(of("b", 1), of("d", 2), of("e", 5))},
		// in the place of another one
		{list(of("a", 1)), of("a", 5), list(of("a", 5))}, {list(of("a", 5)), of("a", 1), list(of("a", 1))}, {list(of("a", 5)), of("a", 5), list(of("a", 5))}, {list(of("a", 5)), of("a", 0), list(of("a", 0))},
		{list(of("b", 1), of("d", 2)), of("b", 5), list(of("b", 5), of("d", 2))},
		{list(of("b", 1), of("d", 2)), of("d", 5), list(of("b", 1), of("d", 5))},
		{list(of("b", 1), of("c", 2), of("d", 3)), of("c", 999999999), list(of("b", 1), of("c", 999999999), of("d", 3))},
		// byte by byte
		{list(of("a", 1), of("aa", 2)), of("a-", 5), list(of("a", 1), of("a-", 5), of("aa", 2))},
		{list(of("a", 1), of("α", 2)), of("z", 5), list(of("a", 1), of("z", 5), of("α", 2))},
		{list(of("a-", 1), of("aa", 2)), of("a0", 5), list(of("a-", 1), of("a0", 5), of("aa", 2))},
	} {
		if got := pick.Put(c.l, c.p); !alike(got, c.want) {
			t.Errorf("Put(%v, %v) = %v, not %v", c.l, c.p, got, c.want)
		}
	}
}

// P15.1
func TestDrop(t *testing.T) {
	three := list(of("a", 1), of("c", 2), of("α", 3))
	for _, c := range []struct {
		l    []api.Pick
		name string
		want []api.Pick
	}{
		{nil, "a", nil}, {nil, "", nil}, {list(of("a", 1)), "a", nil}, {list(of("a", 1)), "b", list(of("a", 1))},
		{three, "a", list(of("c", 2), of("α", 3))}, {three, "c", list(of("a", 1), of("α", 3))}, {three, "α", list(of("a", 1), of("c", 2))},
		{three, "b", three}, {three, "", three}, {three, "A", three}, {three, "aa", three}, {three, "β", three}, {three, "\xff", three}, {three, "a 0.0.1", three},
	} {
		if got := pick.Drop(c.l, c.name); !alike(got, c.want) {
			t.Errorf("Drop(%v, %q) = %v, not %v", c.l, c.name, got, c.want)
		}
	}
}

// P15.1, P15.3: of each length up to some, at each place there is.
func TestEachPlace(t *testing.T) {
	names := letters(81)
	for n := range 41 {
		var l []api.Pick
		for i := range n {
			l = append(l, of(names[2*i+1], 1000*i+n))
		}
		m := mapped(l)
		for i, name := range names {
			gets(t, l, m, name)
			drops(t, l, name)
			puts(t, l, of(name, 7*i))
			gets(t, puts(t, l, of(name, 5)), map[string]int{name: 5}, name)
			gets(t, drops(t, l, name), nil, name)
		}
		for _, name := range probes(l) {
			gets(t, l, m, name)
			drops(t, l, name)
		}
	}
}

// P15.1, P15.3: each subset of some names, and each of these.
func TestEachSubset(t *testing.T) {
	names := []string{"a", "a-", "a0", "aa", "b", "z9", "α", "αa", "β"}
	for bits := range 1 << len(names) {
		var l []api.Pick
		for i, name := range names {
			if bits>>i&1 == 1 {
				l = append(l, of(name, bits*1000+i))
			}
		}
		m := mapped(l)
		for _, name := range append(slices.Clone(names), "a1", "ab", "γ", "") {
			gets(t, l, m, name)
			drops(t, l, name)
			if name != "" {
				for _, place := range []int{0, bits*1000 + 1, 999999999} {
					puts(t, l, of(name, place))
				}
			}
		}
	}
}

// P15.3: a long course of puts and drops, held against a map: what was put is there, what was dropped not, and nothing else is another one.
func TestLongCourse(t *testing.T) {
	names := letters(200)
	m := map[string]int{}
	var l []api.Pick
	seed := uint32(1)
	most := 0
	for step := range 20000 {
		seed = seed*1664525 + 1013904223
		name := names[int(seed>>8)%len(names)]
		if seed>>28 < 9 {
			m[name] = int(seed>>2) % api.Top
			l = pick.Put(l, of(name, m[name]))
		} else {
			delete(m, name)
			l = pick.Drop(l, name)
		}
		gets(t, l, m, name)
		if step%10 == 0 && (!alike(l, listed(m)) || !pick.Check(l)) {
			t.Fatalf("at the step %d there are %v, not %v", step, l, listed(m))
		}
		most = max(most, len(l))
	}
	if most < 100 {
		t.Errorf("there were %d picks at most", most)
	}
}

// P15.3: picks that are put in any order come to the same ones; dropped in any order, to none.
func TestAnyOrder(t *testing.T) {
	all := list(of("a", 4), of("b", 3), of("c", 2), of("d", 1), of("e", 0))
	orders := [][]api.Pick{nil}
	for _, p := range all {
		var next [][]api.Pick
		for _, o := range orders {
			for i := range len(o) + 1 {
				next = append(next, slices.Insert(slices.Clone(o), i, p))
			}
		}
		orders = next
	}
	for _, o := range orders {
		var l []api.Pick
		for _, p := range o {
			l = puts(t, l, p)
		}
		if !alike(l, all) {
			t.Fatalf("%v, put, come to %v", o, l)
		}
		for _, p := range o {
			l = drops(t, l, p.Name)
		}
		if l != nil {
			t.Fatalf("%v, dropped, come to %v", o, l)
		}
	}
	if len(orders) != 120 {
		t.Errorf("there are %d orders", len(orders))
	}
}
