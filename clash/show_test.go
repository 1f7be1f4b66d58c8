package clash_test

import (
	"strings"
	"testing"

	"comprador/api"
	"comprador/clash"
)

// P19.1
func TestShow(t *testing.T) {
	for _, c := range []struct {
		c    []api.Term
		want string
	}{
		{nil, "always"},
		{[]api.Term{}, "always"},
		// the chapter's examples
		{list(in("a", 1000000, 1000001), or(in("b"))), "a =1.0.0 & b absent"},
		{list(in("b", 2000000, 2000001)), "b =2.0.0"},
		{list(in("a", 1000000, 1000001), or(in("b", 2000000, 2000001))), "a =1.0.0 & b =2.0.0 or absent"},
		{list(or(in("b"))), "b absent"},
		{list(in("b", 0, top)), "b any"},
		{list(in("a", 0, top), in("b", 0, top), in("c", 0, top)), "a any & b any & c any"},
		{list(or(in("a", 0, 5, 6, top)), in("α-1", 1, 2, 3, 5, 6, 7)), "a <0.0.5 | >=0.0.6 or absent & α-1 =0.0.1 | >=0.0.3 <0.0.5 | =0.0.6"},
		{list(or(in("absent")), in("always", 0, top), or(in("any"))), "absent absent & always any & any absent"},
		{list(in("abcdefghijkl", 999999999, top), in("αβγδεζηθικλμ", 0, 1)), "abcdefghijkl =999.999.999 & αβγδεζηθικλμ =0.0.0"},
		{list(or(api.Term{Name: "a", In: []api.Span{}})), "a absent"},
	} {
		if got := clash.Show(c.c); got != c.want {
			t.Errorf("Show(%v) = %q, not %q", c.c, got, c.want)
		}
	}
}

// P19.1: of all clashes of three names, each another text.
func TestShowOfAllClashes(t *testing.T) {
	texts := []string{"", "<0.0.5", ">=0.0.5", "any", "absent", "<0.0.5 or absent", ">=0.0.5 or absent"}
	seen := map[string]bool{}
	for _, m := range all() {
		var l []string
		for i, name := range three {
			if m[i] != every {
				l = append(l, name+" "+texts[m[i]])
			}
		}
		want := strings.Join(l, " & ")
		if len(l) == 0 {
			want = "always"
		}
		if got := clash.Show(m.clash()); got != want || seen[got] {
			t.Fatalf("Show(%v) = %q, not %q, or twice", m.clash(), got, want)
		}
		seen[want] = true
	}
}

// P19.1: of many terms.
func TestShowOfMany(t *testing.T) {
	var c []api.Term
	var l []string
	for _, name := range letters(5000) {
		c = append(c, in(name, 1000000, 2000000))
		l = append(l, name+" >=1.0.0 <2.0.0")
	}
	if got := clash.Show(c); got != strings.Join(l, " & ") {
		t.Errorf("the text begins %.80q", got)
	}
}

// Of clashes that may not be nothing is promised; such a one is told as an empty text, as those of terms and picks are.
func TestShowOfSuchAsMayNotBe(t *testing.T) {
	for _, c := range mayNot() {
		if got := clash.Show(c); got != "" {
			t.Errorf("Show(%s) = %.200q", brief(c), got)
		}
	}
}
