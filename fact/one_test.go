package fact_test

import (
	"math"
	"strings"
	"testing"

	"comprador/api"
	"comprador/fact"
	"comprador/index"
)

// P20.1: the chapter's examples.
func TestExamples(t *testing.T) {
	got, ok := fact.Asked([]api.Need{of("a", 0, top)}, "a")
	is(t, "Asked", got, ok, list(api.Term{Name: "a", None: true}), true)
	x := index.New()
	x.Put("b", []byte("\x01b\x00"))
	got, ok = fact.Released(x, "b")
	is(t, "Released", got, ok, list(in("b", 0, top)), true)
}

// P20.1, by hand.
func TestAsked(t *testing.T) {
	for _, c := range []struct {
		root, name, want string
		ok               bool
	}{
		// not needed
		{"", "a", "", false},
		{"a", "b", "", false},
		{"b", "a", "", false},
		{"a c", "b", "", false},
		{"aa", "a", "", false},
		{"a", "aa", "", false},
		{"a", "α", "", false},
		{"a", "", "", false},
		{"a", "A", "", false},
		{"a", "a ", "", false},
		// needed: in any version, in some, and in none
		{"a", "a", "-a", true},
		{"a1", "a", "-a1", true},
		{"a0", "a", "-a0", true},
		{"a13", "a", "-a13", true},
		{"a123", "a", "-a123", true},
		{"a13579", "a", "-a13579", true},
		{"a!", "a", "", true}, // it always holds
		// each of some
		{"a1 b2 c! d", "a", "-a1", true},
		{"a1 b2 c! d", "b", "-b2", true},
		{"a1 b2 c! d", "c", "", true},
		{"a1 b2 c! d", "d", "-d", true},
		{"a1 b2 c! d", "e", "", false},
		{"a! b", "b", "-b", true},
		{"a1 a-2 aa3 z4 α5", "a-", "-a-2", true},
		{"a1 a-2 aa3 z4 α5", "aa", "-aa3", true},
		{"a1 a-2 aa3 z4 α5", "α", "-α5", true},
	} {
		got, ok := fact.Asked(toNeeds(c.root), c.name)
		is(t, "Asked of "+c.root+", "+c.name, got, ok, toFact(c.want), c.ok)
	}
}

// P20.1: sets that begin and end where they may.
func TestAskedOfSets(t *testing.T) {
	for _, c := range []struct{ in, not []int }{
		{[]int{0, top}, nil},
		{nil, []int{0, top}},
		{[]int{0, 1}, []int{1, top}},
		{[]int{1, top}, []int{0, 1}},
		{[]int{0, top - 1}, []int{top - 1, top}},
		{[]int{top - 1, top}, []int{0, top - 1}},
		{[]int{1, top - 1}, []int{0, 1, top - 1, top}},
		{[]int{0, 1, top - 1, top}, []int{1, top - 1}},
		{[]int{1000000, 2000000}, []int{0, 1000000, 2000000, top}},
		{[]int{1, 2, 3, 4, 5, 6, 7, 8, 9, 10, 11, 12}, []int{0, 1, 2, 3, 4, 5, 6, 7, 8, 9, 10, 11, 12, top}},
		{[]int{0, 2, 3, 4, 5, 6, 7, 8, 9, 10, 11, top}, []int{2, 3, 4, 5, 6, 7, 8, 9, 10, 11}},
	} {
		want := list(or(in("b", c.not...)))
		if c.in == nil {
			want = nil
		}
		got, ok := fact.Asked([]api.Need{of("a", 5, 6), of("b", c.in...), of("c", 7, 8)}, "b")
		is(t, "Asked of "+brief(c.in), got, ok, want, true)

		x := knows(t, pack("a", rel(3, of("b", c.in...))), pack("c", rel(4, of("b", c.in...))))
		got, ok = fact.Needed(x, "a", 3, "b")
		is(t, "Needed by a of "+brief(c.in), got, ok, append(list(in("a", 3, 4)), want...), true)
		got, ok = fact.Needed(x, "c", 4, "b")
		is(t, "Needed by c of "+brief(c.in), got, ok, append(want[:len(want):len(want)], in("c", 4, 5)), true)
	}
}

// P20.1, by hand.
func TestReleased(t *testing.T) {
	for _, c := range []struct {
		known, name, want string
		ok                bool
	}{
		// not known
		{"", "a", "", false},
		{"b 1", "a", "", false},
		{"b 1(a)", "a", "", false},
		{"aa 1", "a", "", false},
		{"a 1", "aa", "", false},
		{"a 1", "α", "", false},
		{"a 1", "", "", false},
		{"a 1", "A", "", false},
		{"a=b 1", "b", "", false},
		// known, and broken
		{"a! 1", "a", "a", true},
		{"a!", "a", "a", true},
		{"a=b 1", "a", "a", true},
		{"a! 1; b 1", "b", "-b1?", true},
		// known, without releases, and with some
		{"a", "a", "a", true},
		{"a 0", "a", "-a0?", true},
		{"a 1", "a", "-a1?", true},
		{"a 1 2", "a", "-a12?", true},
		{"a 1 3", "a", "-a13?", true},
		{"a 0 1 2 4 5 7 8 9", "a", "-a01245789?", true},
		// whatever they need
		{"a 1(b) 2(a!,c2)", "a", "-a12?", true},
		{"a 1(a1)", "a", "-a1?", true},
		// each of some
		{"a 1; a- 2; aa 3; z 4; α 5", "a", "-a1?", true},
		{"a 1; a- 2; aa 3; z 4; α 5", "a-", "-a-2?", true},
		{"a 1; a- 2; aa 3; z 4; α 5", "aa", "-aa3?", true},
		{"a 1; a- 2; aa 3; z 4; α 5", "α", "-α5?", true},
	} {
		got, ok := fact.Released(toIndex(t, c.known), c.name)
		is(t, "Released of "+c.known+", "+c.name, got, ok, toFact(c.want), c.ok)
	}
	x := knows(t, pack("a", rel(0), rel(top-1)), pack("b", rel(top-2), rel(top-1)), pack("abcdefghijkl", rel(1000000)))
	for name, ends := range map[string][]int{"a": {1, top - 1}, "b": {0, top - 2}, "abcdefghijkl": {0, 1000000, 1000001, top}} {
		got, ok := fact.Released(x, name)
		is(t, "Released of "+name, got, ok, list(in(name, ends...)), true)
	}
}

// P20.1, by hand.
func TestNeeded(t *testing.T) {
	for _, c := range []struct {
		known, name string
		ver         int
		to, want    string
		ok          bool
	}{
		// a package that is not known, or broken
		{"", "a", 1, "b", "", false},
		{"b 1(c)", "a", 1, "c", "", false},
		{"a! 1(b)", "a", 1, "b", "", false},
		{"a=b 1(c)", "a", 1, "c", "", false},
		{"a=b 1(c)", "b", 1, "c", "", false},
		{"a 1(b)", "", 1, "b", "", false},
		{"a 1(b)", "A", 1, "b", "", false},
		// no such release
		{"a", "a", 0, "b", "", false},
		{"a 1(b)", "a", 0, "b", "", false},
		{"a 1(b)", "a", 2, "b", "", false},
		{"a 1(b)", "a", -1, "b", "", false},
		{"a 1(b)", "a", top + 1, "b", "", false},
		{"a 1(b)", "a", math.MinInt, "b", "", false},
		{"a 1(b)", "a", math.MaxInt, "b", "", false},
		// no such need
		{"a 1", "a", 1, "b", "", false},
		{"a 1", "a", 1, "a", "", false},
		{"a 1(b)", "a", 1, "a", "", false},
		{"a 1(b)", "a", 1, "c", "", false},
		{"a 1(b)", "a", 1, "", "", false},
		{"a 1(b)", "a", 1, "bb", "", false},
		{"a 1(b) 2(c)", "a", 1, "c", "", false},
		{"a 1(b) 2(c)", "a", 2, "b", "", false},
		{"a 1(b); b 1(c)", "a", 1, "c", "", false},
		// needs: in any version, in some, and in none
		{"a 1(b)", "a", 1, "b", "a1 -b", true},
		{"a 0(b)", "a", 0, "b", "a0 -b", true},
		{"a 1(b1)", "a", 1, "b", "a1 -b1", true},
		{"a 1(b13579)", "a", 1, "b", "a1 -b13579", true},
		{"a 1(b!)", "a", 1, "b", "a1", true},
		// by rising names
		{"b 1(a)", "b", 1, "a", "-a b1", true},
		{"b 1(a2)", "b", 1, "a", "-a2 b1", true},
		{"b 1(a!)", "b", 1, "a", "b1", true},
		{"α 1(z2)", "α", 1, "z", "-z2 α1", true},
		{"a 1(a-2)", "a", 1, "a-", "a1 -a-2", true},
		{"a- 1(a2)", "a-", 1, "a", "-a2 a-1", true},
		// of the package itself: in the release's version, or another one
		{"a 1(a)", "a", 1, "a", "", false},
		{"a 1(a1)", "a", 1, "a", "", false},
		{"a 1(a013)", "a", 1, "a", "", false},
		{"a 1(a0)", "a", 1, "a", "a1", true},
		{"a 1(a2)", "a", 1, "a", "a1", true},
		{"a 1(a02)", "a", 1, "a", "a1", true},
		{"a 1(a!)", "a", 1, "a", "a1", true},
		{"a 1(a1) 2(a1)", "a", 2, "a", "a2", true},
		// each of some
		{"a 1(b1,c) 2(b2,c3) 3(c!)", "a", 1, "b", "a1 -b1", true},
		{"a 1(b1,c) 2(b2,c3) 3(c!)", "a", 1, "c", "a1 -c", true},
		{"a 1(b1,c) 2(b2,c3) 3(c!)", "a", 2, "b", "a2 -b2", true},
		{"a 1(b1,c) 2(b2,c3) 3(c!)", "a", 2, "c", "a2 -c3", true},
		{"a 1(b1,c) 2(b2,c3) 3(c!)", "a", 3, "b", "", false},
		{"a 1(b1,c) 2(b2,c3) 3(c!)", "a", 3, "c", "a3", true},
		{"a 1(b,c,d,e,f,g)", "a", 1, "g", "a1 -g", true},
		// whatever is known of what is needed
		{"a 1(b12); b 1 3", "a", 1, "b", "a1 -b12", true},
		{"a 1(b12); b! 1", "a", 1, "b", "a1 -b12", true},
		{"a 1(b12); b", "a", 1, "b", "a1 -b12", true},
	} {
		got, ok := fact.Needed(toIndex(t, c.known), c.name, c.ver, c.to)
		is(t, "Needed of "+c.known+", "+c.name+", "+brief(c.ver)+", "+c.to, got, ok, toFact(c.want), c.ok)
	}
	x := knows(t, pack("a", rel(top-1, of("a", 0, top-1), of("b", top-1, top))))
	got, ok := fact.Needed(x, "a", top-1, "a")
	is(t, "Needed of the last version", got, ok, list(in("a", top-1, top)), true)
	got, ok = fact.Needed(x, "a", top-1, "b")
	is(t, "Needed of the last version", got, ok, list(in("a", top-1, top), or(in("b", 0, top-1))), true)
}

// P20.1: nothing of an index that is none, or that New did not make.
func TestOfNoIndex(t *testing.T) {
	for _, x := range []*index.Index{nil, {}, index.New()} {
		for _, name := range []string{"", "a", "A", strings.Repeat("ω", 13)} {
			got, ok := fact.Released(x, name)
			is(t, "Released", got, ok, nil, false)
			got, ok = fact.Needed(x, name, 0, name)
			is(t, "Needed", got, ok, nil, false)
			facts, steps := fact.All(x, name)
			are(t, "All", facts, steps, nil, nil)
		}
	}
}
