package need_test

import (
	"maps"
	"slices"
	"testing"

	"comprador/api"
	"comprador/need"
	"comprador/span"
)

// put fails, if what both need is not told, whichever of both stands first.
func put(t *testing.T, a, b, want []api.Need) {
	t.Helper()
	if got := need.Both(a, b); !alike(got, want) {
		t.Errorf("Both(%v, %v) = %v, not %v", a, b, got, want)
	}
	if got := need.Both(b, a); !alike(got, want) {
		t.Errorf("Both(%v, %v) = %v, not %v", b, a, got, want)
	}
}

// P8.1
func TestBoth(t *testing.T) {
	put(t, nil, nil, nil)
	put(t, named("a"), nil, named("a"))
	put(t, named("a"), named("a"), named("a"))
	put(t, named("a"), named("b"), named("a", "b"))
	put(t, named("a", "c"), named("b"), named("a", "b", "c"))
	put(t, named("a", "c", "e"), named("b", "d", "f"), named("a", "b", "c", "d", "e", "f"))
	put(t, named("a", "b", "c"), named("d", "e", "f"), named("a", "b", "c", "d", "e", "f"))
	put(t, named("a", "b", "c"), named("b"), named("a", "b", "c"))
	put(t, named("a", "b"), named("b", "c"), named("a", "b", "c"))
	// byte by byte: a hyphen ahead of digits, these ahead of letters, these ahead of Greek ones
	put(t, named("a", "aa", "α"), named("a-", "a0", "z"), named("a", "a-", "a0", "aa", "z", "α"))
	// the Meet
	put(t, list(of("a", 1, 9)), list(of("a", 5, 20)), list(of("a", 5, 9)))
	put(t, list(of("a", 1, 9)), list(of("a", 9, 20)), list(of("a")))
	put(t, list(of("a", 1, 9)), list(of("a")), list(of("a")))
	put(t, list(of("a", 1, 9)), named("a"), list(of("a", 1, 9)))
	put(t, list(of("a", 1, 3, 5, 9)), list(of("a", 2, 6, 8, 10)), list(of("a", 2, 3, 5, 6, 8, 9)))
	put(t, list(of("a", 1, 3), of("c", 5, 9)), list(of("b", 4, 8), of("c", 7, 12)), list(of("a", 1, 3), of("b", 4, 8), of("c", 7, 9)))
	put(t, list(of("a")), list(of("b")), list(of("a"), of("b")))
}

// P8.1: what comes of both may be more needs than may be, and have more spans.
func TestBothOfMany(t *testing.T) {
	put(t, named("a", "c", "e", "g", "i", "k"), named("b", "d", "f", "h", "j", "l"), named("a", "b", "c", "d", "e", "f", "g", "h", "i", "j", "k", "l"))
	one := spans(0, 11, 20, 31, 40, 51, 60, 71, 80, 91, 100, 111)
	other := spans(10, 21, 30, 41, 50, 61, 70, 81, 90, 101, 110, 121)
	want := spans(10, 11, 20, 21, 30, 31, 40, 41, 50, 51, 60, 61, 70, 71, 80, 81, 90, 91, 100, 101, 110, 111)
	put(t, list(api.Need{Name: "a", In: one}), list(api.Need{Name: "a", In: other}), list(api.Need{Name: "a", In: want}))
}

// P8.3: both of needs and none is them; of needs and themselves, too.
func TestBothOfOne(t *testing.T) {
	for _, l := range mayBe {
		put(t, l, nil, l)
		put(t, l, []api.Need{}, l)
		put(t, l, l, l)
	}
}

// P8.1, P8.3: all lists of needs that may be, two by two, held against maps of what has which version.
func TestBothOfAllShortLists(t *testing.T) {
	ins := [][]api.Span{nil, all, spans(1, 5), spans(3, 8), spans(0, 2, 4, 6, 7, 1000000000)}
	places := []int{0, 1, 2, 3, 4, 5, 6, 7, 8, 9, 999999999}
	some := [][]api.Need{nil}
	for _, name := range []string{"a", "a-", "α"} {
		for _, l := range some {
			for _, in := range ins {
				some = append(some, append(slices.Clone(l), api.Need{Name: name, In: in}))
			}
		}
	}
	for _, a := range some {
		for _, b := range some {
			got := need.Both(a, b)
			one, other := mapped(a), mapped(b)
			names := maps.Clone(one)
			maps.Copy(names, other)
			if len(got) != len(names) || !slices.IsSortedFunc(got, func(x, y api.Need) int { return slices.Compare([]byte(x.Name), []byte(y.Name)) }) {
				t.Fatalf("Both(%v, %v) = %v", a, b, got)
			}
			for _, n := range got {
				x, inA := one[n.Name]
				y, inB := other[n.Name]
				if !inA && !inB || !span.Check(n.In) {
					t.Fatalf("Both(%v, %v) = %v", a, b, got)
				}
				for _, p := range places {
					want := (!inA || has(x, p)) && (!inB || has(y, p))
					if has(n.In, p) != want {
						t.Fatalf("Both(%v, %v) = %v: of %s at %d it should tell %v", a, b, got, n.Name, p, want)
					}
				}
			}
		}
	}
}

// mapped are needs by their names.
func mapped(l []api.Need) map[string][]api.Span {
	m := map[string][]api.Span{}
	for _, n := range l {
		m[n.Name] = n.In
	}
	return m
}

// has tells whether a set has a place, without the package that tells it.
func has(l []api.Span, place int) bool {
	return slices.ContainsFunc(l, func(s api.Span) bool { return s.Lo <= place && place < s.Hi })
}
