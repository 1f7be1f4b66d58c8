package term_test

import (
	"testing"

	"comprador/api"
	"comprador/term"
)

// P18.2
func TestShow(t *testing.T) {
	for _, c := range []struct {
		x    api.Term
		want string
	}{
		{or(in("a", 1000000, 1000001)), "a =1.0.0 or absent"},     // the chapter's example
		{in("a", 0, 1000000, 1000001, top), "a <1.0.0 | >=1.0.1"}, // its Not
		{or(in("a", 0, top)), "a whatever"},                       // full
		{in("a"), "a nowhere"},                                    // empty
		{api.Term{Name: "a", In: []api.Span{}}, "a nowhere"},      // an empty list is none
		{or(in("a")), "a absent"},                                 // no version
		{or(api.Term{Name: "a", In: []api.Span{}}), "a absent"},   // an empty list is none
		{in("a", 0, top), "a any"},                                // all versions, but not all states
		{in("a", 1000000, 2000000), "a >=1.0.0 <2.0.0"},
		{or(in("a", 1000000, 2000000)), "a >=1.0.0 <2.0.0 or absent"},
		{in("a", 0, 1), "a =0.0.0"},
		{or(in("a", 0, 1)), "a =0.0.0 or absent"},
		{in("a", 999999999, top), "a =999.999.999"},
		{in("a", 0, 999999999), "a <999.999.999"},
		{in("a", 1, top), "a >=0.0.1"},
		{or(in("a", 1, top)), "a >=0.0.1 or absent"},
		{in("α-1", 1002003, 1002004), "α-1 =1.2.3"},
		{or(in("absent")), "absent absent"},
		{in("nowhere"), "nowhere nowhere"},
		{or(in("whatever", 0, top)), "whatever whatever"},
		{or(in("or", 5, 6, 7, 8)), "or =0.0.5 | =0.0.7 or absent"},
		{in("any", 0, top), "any any"},
		{in("abcdefghijkl", 0, top), "abcdefghijkl any"},
		{in("αβγδεζηθικλμ", 5, 9), "αβγδεζηθικλμ >=0.0.5 <0.0.9"},
		{or(in("a", 0, 5, 6, top)), "a <0.0.5 | >=0.0.6 or absent"},
		{in("a", 1, 2, 3, 5, 6, 7), "a =0.0.1 | >=0.0.3 <0.0.5 | =0.0.6"},
	} {
		if got := term.Show(c.x); got != c.want {
			t.Errorf("Show(%v) = %q, not %q", c.x, got, c.want)
		}
	}
}

// P18.2: of all terms that cells make, each another text; and of those of more spans.
func TestShowOfAllTerms(t *testing.T) {
	seen := map[string]bool{}
	for _, name := range goodNames {
		for m := range every + 1 {
			x := set(name, m)
			got := term.Show(x)
			if got != shown(x) || seen[got] {
				t.Fatalf("Show(%v) = %q, not %q, or twice", x, got, shown(x))
			}
			seen[got] = true
		}
	}
	for _, x := range mayBe() {
		if got := term.Show(x); got != shown(x) {
			t.Errorf("Show(%s) = %.200q", brief(x), got)
		}
	}
}

// P18.2: an empty text of such as may not be, by their name, by their set, or both, and whatever else they have.
func TestShowOfSuchAsMayNotBe(t *testing.T) {
	for _, x := range append(mayNot(), api.Term{}, or(api.Term{}), in("", 0, top), or(in("", 0, top)), in("A"), or(in("A"))) {
		if got := term.Show(x); got != "" {
			t.Errorf("Show(%s) = %.200q", brief(x), got)
		}
	}
}
