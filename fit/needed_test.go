package fit_test

import (
	"strings"
	"testing"

	"comprador/api"
)

// P16.1, by hand.
func TestNeeded(t *testing.T) {
	for _, c := range []struct{ known, root, picks, want string }{
		// nothing is asked for
		{"", "", "", ""},
		{"a 1(b); b 1", "", "a1 b1", ""},
		// what root needs, picked or not
		{"", "a", "", "a"},
		{"", "a b c", "", "a b c"},
		{"a 1", "a", "a1", "a"},
		{"a 1; b 1", "a", "a1 b1", "a"},
		{"a 1; b 1", "a", "b1", "a"},
		// what the release needs that was picked, picked itself or not
		{"a 1(b); b 1", "a", "a1 b1", "a b"},
		{"a 1(b); b 1", "a", "a1", "a b"},
		{"a 1(b)", "a", "a1", "a b"},
		{"a 1(b)", "a", "", "a"},
		{"a 1(b,c)", "a", "a1", "a b c"},
		{"a 1(b,c,d,e,f,g)", "a", "a1", "a b c d e f g"},
		{"b 1(a)", "b", "b1", "a b"},
		// and no other release
		{"a 1(b) 2(c) 3(d)", "a", "a1", "a b"},
		{"a 1(b) 2(c) 3(d)", "a", "a2", "a c"},
		{"a 1(b) 2(c) 3(d)", "a", "a3", "a d"},
		{"a 1(b) 2(c) 3(d)", "a", "a4", "a"},
		{"a 1(b) 2(c) 3(d)", "a", "a0", "a"},
		{"a 1 2(b)", "a", "a1", "a"},
		// of a pick whose manifest is not known, is broken, or has no such release, nothing is needed
		{"", "a", "a1", "a"},
		{"a! 1(b)", "a", "a1", "a"},
		{"a=b 1(c)", "a", "a1", "a"},
		{"a=b 1(c)", "b", "b1", "b"},
		{"a", "a", "a1", "a"},
		// of a name without a pick nothing is needed, be there a release at the place 0 or not
		{"a 0(b) 1(c)", "a", "", "a"},
		{"a 0(b) 1(c)", "a", "b0", "a"},
		{"a 0(b) 1(c)", "a", "a0", "a b"},
		{"a 1(b); b 0(c)", "a", "a1", "a b"},
		// in whatever version it is needed, and picked
		{"a 1(b1); b 2(c)", "a", "a1 b2", "a b c"},
		{"a 1(b!); b 2(c)", "a", "a1 b2", "a b c"},
		{"a 1(b)", "a2", "a1", "a b"},
		{"a 1(b)", "a!", "a1", "a b"},
		// chains, one behind the other, and the other way round
		{"a 1(b); b 1(c); c 1(d)", "a", "a1 b1 c1 d1", "a b c d"},
		{"a 1(b); b 1(c); c 1(d)", "a", "a1 b1 c1", "a b c d"},
		{"a 1(b); b 1(c); c 1(d)", "a", "a1 b1 d1", "a b c"},
		{"a 1(b); b 1(c); c 1(d)", "a", "a1 c1 d1", "a b"},
		{"a 1(b); b 1(c); c 1(d)", "b", "a1 b1 c1 d1", "b c d"},
		{"d 1(c); c 1(b); b 1(a)", "d", "a1 b1 c1 d1", "a b c d"},
		{"d 1(c); c 1(b); b 1(a)", "c", "a1 b1 c1 d1", "a b c"},
		{"d 1(c); c 1(b); b 1(a)", "d", "a1 b1 d1", "c d"},
		// rings
		{"a 1(a)", "a", "a1", "a"},
		{"a 1(a)", "", "a1", ""},
		{"a 1(b); b 1(a)", "a", "a1 b1", "a b"},
		{"a 1(b); b 1(a)", "b", "a1 b1", "a b"},
		{"a 1(b); b 1(a); c 1", "c", "a1 b1 c1", "c"},
		{"a 1(b); b 1(c); c 1(a)", "b", "a1 b1 c1", "a b c"},
		{"a 1(b); b 1(c); c 1(a)", "b", "b1 c1", "a b c"},
		// many ways to one name
		{"a 1(c); b 1(c)", "a b", "a1 b1 c1", "a b c"},
		{"a 1(b,c); b 1(d); c 1(d); d 1(e)", "a", "a1 b1 c1 d1 e1", "a b c d e"},
		{"a 1(b,c); b 1(d); c 1(d); d 1(e)", "a", "a1 c1 d1", "a b c d e"},
		{"a 1(b); b 1", "a b", "a1 b1", "a b"},
		{"a 1(b,c,d,e,f,g); b 1(a,c,d,e,f,g); g 1(a,b,c,d,e,f)", "a g", "a1 b1 g1", "a b c d e f g"},
		{"a 1(b,c,d,e,f,g); b 1(c,d,e,f,g,h); h 1(a,b,d,e,f,g)", "a b c d e f", "a1 b1 h1", "a b c d e f g h"},
		{"z 1(a,b,c,d,z)", "z", "z1", "a b c d z"},
		{"y 1(a,b,c,d,y,z); z 1(e,f,g,h,y,z)", "y z", "y1 z1", "a b c d e f g h y z"},
		// texts byte by byte
		{"m 1(a,a-,z); z 1(zz,α)", "m", "m1 z1", "a a- m z zz α"},
		{"α 1(a,z); a 1(ω)", "α", "a1 α1", "a z α ω"},
	} {
		isNeeded(t, toIndex(t, c.known), toNeeds(c.root), toPicks(c.picks), strings.Fields(c.want))
		asModel(t, toIndex(t, c.known), toNeeds(c.root), toPicks(c.picks))
	}
}

// P16.1: names that rise byte by byte, digits and hyphens among them.
func TestNeededRises(t *testing.T) {
	x := knows(t, pack("m", rel(5, of("a-"), of("a0"), of("aa"), of("aα"), of("b9", 5, 6), of("α1", 0, top))))
	root := []api.Need{of("a", 0, top), of("a-1"), of("m", 7, 8), of("α")}
	isNeeded(t, x, root, []api.Pick{at("m", 5)}, strings.Fields("a a- a-1 a0 aa aα b9 m α α1"))
	isNeeded(t, x, root, []api.Pick{at("m", 6)}, strings.Fields("a a-1 m α"))
}
