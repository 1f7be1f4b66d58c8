package judge_test

import (
	"slices"
	"testing"

	"comprador/api"
	"comprador/clash"
	"comprador/index"
	"comprador/judge"
)

// made fails, if Clashes, or Last, of a proof tells something else than clashes it should.
func made(t *testing.T, x *index.Index, root []api.Need, l []api.Step, want [][]api.Term) {
	t.Helper()
	got, count := judge.Clashes(x, root, l)
	if !slices.EqualFunc(got, want, same) || count != len(want) {
		t.Fatalf("Clashes of %v, of %s = %s, %d, not %s", root, brief(l), brief(got), count, brief(want))
	}
	if len(got) == 0 && got != nil {
		t.Fatalf("Clashes of %v, of %s told an empty list that is not none", root, brief(l))
	}
	for _, c := range got {
		if !clash.Check(c) || len(c) == 0 && c != nil {
			t.Fatalf("Clashes of %v, of %s told %v", root, brief(l), c)
		}
	}
	last, ok := judge.Last(x, root, l)
	var lastWant []api.Term
	if len(want) == len(l) {
		lastWant = want[len(want)-1]
	}
	if !same(last, lastWant) || ok != (len(want) == len(l)) || len(last) == 0 && last != nil {
		t.Fatalf("Last of %v, of %s = %v, %v, not %v", root, brief(l), last, ok, lastWant)
	}
}

// P22.1, by hand: each of the kinds, and the first step that is wrong.
func TestClashes(t *testing.T) {
	for _, c := range []struct{ known, root, l, want string }{
		// the chapter's example
		{"a", "a", "asked a; released a; joined a 0 1", "a!?; a; always"},
		// asked: needed by root or not, whatever is known
		{"", "a", "asked a", "a!?"},
		{"a 1", "a13", "asked a", "-a13"},
		{"a! 1", "b2 a1", "asked a", "-a1"},
		{"", "a!", "asked a", "always"},
		{"a 1", "", "asked a", ""},
		{"a 1(b)", "a", "asked b", ""},
		{"", "aa", "asked a", ""},
		{"", "a", "asked aa", ""},
		// released: known or not, and what it is known as
		{"a", "", "released a", "a"},
		{"a 1 3", "b", "released a", "-a13?"},
		{"a! 1 3", "", "released a", "a"},
		{"a=b 1 3; b 2", "", "released a", "a"},
		{"b 1", "a", "released a", ""},
		{"aa 1", "a", "released a", ""},
		{"", "a", "released a", ""},
		// needed: by a release that there is, of what it needs
		{"a 1(b) 2", "", "needed a1 b", "a1 b!?"},
		{"a 1(b2)", "b1", "needed a1 b", "a1 -b2"},
		{"b 3(a13,c)", "", "needed b3 a", "-a13 b3"},
		{"a 1(b!)", "", "needed a1 b", "a1"},
		{"a 1(a2) 2", "", "needed a1 a", "a1"},
		{"a 1(a12) 2", "", "needed a1 a", ""},
		{"a 1(b) 2", "b", "needed a2 b", ""},
		{"a 1(b)", "b", "needed a3 b", ""},
		{"a 1(b)", "c", "needed a1 c", ""},
		{"a! 1(b)", "", "needed a1 b", ""},
		{"b 1(a)", "", "needed a1 b", ""},
		{"", "a b", "needed a1 b", ""},
		// joined: over a name of which both have a term
		{"a 1 2", "a1", "asked a; released a; joined a 0 1; joined a 1 0", "-a1; -a12?; -a1; -a1"},
		{"a 1 2", "a3", "asked a; released a; joined a 1 0", "-a3; -a12?; always"},
		{"a 1 2", "a3", "asked a; released a; joined a 0 1", "-a3; -a12?; always"},
		{"a 1 2", "a23", "asked a; released a; joined a 0 1; joined a 2 2", "-a23; -a12?; -a2; -a2"},
		{"a 1", "a", "asked a; joined a 0 0; joined a 1 0", "a!?; a!?; a!?"},
		{"a 1(b1); b 2", "a", "needed a1 b; released b; joined b 0 1; released a; joined a 2 3; asked a; joined a 4 5", "a1 -b1; -b2?; a1; -a1?; a; a!?; always"},
		{"a 1(b1); b 2", "a", "needed a1 b; released b; joined b 1 0; released a; joined a 3 2; asked a; joined a 5 4", "a1 -b1; -b2?; a1; -a1?; a; a!?; always"},
		{"a 1(b1)", "b2", "asked b; needed a1 b; joined b 0 1; joined b 2 0", "-b2; a1 -b1; a1"},
		// the other terms are put together
		{"a 1(b12,c1) 2(b23,c)", "", "needed a1 b; needed a2 b; joined a 0 1; needed a1 c; needed a2 c; joined a 3 4; joined a 0 4", "a1 -b12; a2 -b23; a12 -b123; a1 -c1; a2 c!?; a12 c!?; a12 -b12 c!?"},
		{"b 1(a) 2(a3); c 1(a2)", "", "needed b1 a; needed c1 a; needed b2 a; joined a 0 1; joined b 0 2; joined b 4 3", "a!? b1; -a2 c1; -a3 b2; -a2 b1 c1; a!? b12; a!? b12 c1"},
		// wrong joins: over a name of which A, B, or both have no term, or such as come to no clash
		{"a 1", "a b", "asked a; asked b; joined a 0 1; released a", "a!?; b!?"},
		{"a 1", "a b", "asked a; asked b; joined b 0 1; released a", "a!?; b!?"},
		{"a 1", "a b", "asked a; asked b; joined c 0 1; released a", "a!?; b!?"},
		{"a 1", "a b", "asked a; joined b 0 0; asked b", "a!?"},
		{"a", "a", "asked a; released a; joined a 0 1; joined a 2 2; asked a", "a!?; a; always"},
		{"a", "a", "asked a; released a; joined a 0 1; joined a 2 0; asked a", "a!?; a; always"},
		{"a", "a", "asked a; released a; joined a 0 1; joined a 0 2; asked a", "a!?; a; always"},
		{"", "a!", "asked a; joined a 0 0", "always"},
		{"a 1(b,c) 2(b)", "", "needed a1 b; needed a2 b; joined b 0 1; needed a1 c", "a1 b!?; a2 b!?"},
		{"a 1(b,c) 2(b)", "", "needed a1 b; needed a1 c; joined b 0 1; needed a1 c", "a1 b!?; a1 c!?"},
		// up to the first that is wrong, used or not, whatever stands behind it
		{"a", "a", "asked b; asked a; released a; joined a 1 2", ""},
		{"a", "a", "asked a; asked b; released a; joined a 0 2", "a!?"},
		{"a", "a", "asked a; released a; asked b; joined a 0 1", "a!?; a"},
		{"a", "a", "asked a; released a; joined a 0 1; asked b", "a!?; a; always"},
		{"a", "a", "asked a; released a; joined b 0 1; joined a 0 1", "a!?; a"},
		{"a", "a", "asked a; released b; joined a 0 1; released b", "a!?"},
		{"a", "a", "asked a; needed a1 b; joined a 0 1", "a!?"},
		// a last step that is not always, and one behind it
		{"a", "a", "asked a; released a; joined a 0 1; released a", "a!?; a; always; a"},
		{"a", "a", "asked a; asked a; asked a", "a!?; a!?; a!?"},
	} {
		made(t, toIndex(t, c.known), toNeeds(c.root), toProof(c.l), toClashes(c.want))
	}
}

// ofMasks are the clashes of masks.
func ofMasks(l []masks) [][]api.Term {
	var c [][]api.Term
	for _, m := range l {
		c = append(c, m.clash())
	}
	return c
}

// each tells each proof of up to so many steps: of some leaves, and of any two steps ahead joined over some names. What was told is changed behind that.
func each(size int, leaves []api.Step, names string, told func(l []api.Step)) {
	var on func(l []api.Step)
	on = func(l []api.Step) {
		if len(l) > 0 {
			told(l)
		}
		if len(l) == size {
			return
		}
		for _, s := range leaves {
			on(append(l, s))
		}
		for a := range l {
			for b := range l {
				for _, name := range names {
					on(append(l, joined(string(name), a, b)))
				}
			}
		}
	}
	on(nil)
}

// P22.1, P22.2: all proofs of up to four steps, held against another way to make clashes.
func TestSmallProofs(t *testing.T) {
	for _, c := range []struct{ known, root, leaves, names string }{
		{"a 1(b2) 2; b 2 3(a1)", "a3 b3", "asked a; asked b; released a; released b; needed a1 b; needed b3 a; needed a2 b", "ab"},
		{"a 1(a2,b!); b!", "a1", "asked a; released a; released b; needed a1 b; needed a1 a; asked b; released γ", "aγ"},
		{"b; γ 1(b)", "b! γ", "asked b; asked γ; released b; released γ; needed γ1 b", "bγ"},
	} {
		x, root, count, right := toIndex(t, c.known), toNeeds(c.root), 0, 0
		each(4, toProof(c.leaves), c.names, func(l []api.Step) {
			made(t, x, root, l, ofMasks(allMasks(x, root, l)))
			got := judge.Accept(x, root, l)
			if got != accepted(x, root, l) {
				t.Fatalf("of %q, %q Accept(%s) = %v", c.known, c.root, brief(l), got)
			}
			count++
			if got {
				right++
			}
		})
		if count < 10000 || right < 10 {
			t.Errorf("of %d small proofs %d are accepted", count, right)
		}
	}
}

// drawnProof are steps that are drawn, most of which are not wrong.
func drawnProof(draw func(int) int, x *index.Index, root []api.Need) []api.Step {
	var l []api.Step
	var made []masks
	some := leaves()
	for range 2 + draw(40) {
		for range 20 { // else one that may be wrong
			s := some[draw(len(some))]
			if n := len(l); n > 1 && draw(4) > 0 {
				s = joined(three[draw(3)], draw(n), n-1-draw(min(n, 4)))
			}
			m, ok := masksOf(x, root, s, made)
			if !ok {
				continue
			}
			l, made = append(l, s), append(made, m)
			break
		}
		if draw(200) == 0 {
			l = append(l, some[draw(len(some))])
			break
		}
	}
	if len(l) == 0 {
		l = append(l, some[draw(len(some))])
	}
	return l
}

// P22.1, P22.2: longer ones, drawn, of manifests and needs that are drawn.
func TestDrawnProofs(t *testing.T) {
	draw := drawer(221)
	whole, wrong, right := 0, 0, 0
	for range 6000 {
		x, _ := drawnIndex(t, draw)
		root := drawnNeeds(draw, 3)
		l := drawnProof(draw, x, root)
		masks := allMasks(x, root, l)
		made(t, x, root, l, ofMasks(masks))
		got := judge.Accept(x, root, l)
		if got != accepted(x, root, l) {
			t.Fatalf("of %v Accept(%s) = %v", root, brief(l), got)
		}
		switch {
		case got:
			right++
		case len(masks) == len(l):
			whole++
		default:
			wrong++
		}
	}
	if whole < 1000 || wrong < 300 || right < 30 {
		t.Errorf("%d are accepted, %d are not always, %d are wrong", right, whole, wrong)
	}
}

// P22.1: of one step that is wrong, at each place of many.
func TestOneWrongStep(t *testing.T) {
	x, root := toIndex(t, "a 1(b) 2(b); b"), toNeeds("a")
	was := toProof("asked a; released a; needed a1 b; joined a 1 2; needed a2 b; joined a 3 4; joined a 0 5; released b; joined b 6 7")
	want, count := judge.Clashes(x, root, was)
	if count != len(was) || want[8] != nil {
		t.Fatalf("Clashes = %v, %d", want, count)
	}
	for i := range was {
		for _, s := range toProof("asked b; released γ; needed a3 b; needed a1 γ; needed b1 a") {
			l := slices.Clone(was)
			l[i] = s
			made(t, x, root, l, want[:i])
		}
		if i > 0 {
			l := slices.Clone(was)
			l[i] = joined("γ", 0, i-1)
			made(t, x, root, l, want[:i])
		}
		made(t, x, root, was[:i+1], want[:i+1])
	}
}
