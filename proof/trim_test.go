package proof_test

import (
	"slices"
	"sort"
	"strings"
	"testing"

	"comprador/api"
	"comprador/proof"
)

// uses are the numbers of the steps that a step uses, in order, by going through what is used until nothing comes to it.
func uses(l []api.Step, from int) []int {
	found := map[int]bool{from: true}
	for size := 0; size < len(found); {
		size = len(found)
		for i := from; i >= 0; i-- {
			if found[i] && l[i].Kind == 4 {
				found[l[i].A], found[l[i].B] = true, true
			}
		}
	}
	var numbers []int
	for i := range found {
		numbers = append(numbers, i)
	}
	sort.Ints(numbers)
	return numbers
}

// trimOther is Trim, in another way.
func trimOther(l []api.Step) []api.Step {
	var t []api.Step
	numbers := uses(l, len(l)-1)
	for _, i := range numbers {
		s := l[i]
		if s.Kind == 4 {
			s.A, s.B = sort.SearchInts(numbers, s.A), sort.SearchInts(numbers, s.B)
		}
		t = append(t, s)
	}
	return t
}

// leavesOther is Leaves, in another way.
func leavesOther(l []api.Step) []string {
	var names []string
	for _, s := range l {
		if (s.Kind == 2 || s.Kind == 3) && !slices.Contains(names, s.Name) {
			names = append(names, s.Name)
		}
	}
	sort.Strings(names)
	return names
}

// trims fails, if a proof is trimmed otherwise than in the other way, or what follows (P21.3) doesn't.
func trims(t *testing.T, l []api.Step) {
	t.Helper()
	got, want := proof.Trim(l), trimOther(l)
	if !alike(got, want) {
		t.Fatalf("Trim(%s) = %s, not %s", brief(l), brief(got), brief(want))
	}
	if !proof.Check(got) || len(got) > len(l) {
		t.Fatalf("Trim(%s) = %s may not be, or has more steps", brief(l), brief(got))
	}
	if again := proof.Trim(got); !alike(again, got) {
		t.Fatalf("Trim(%s) = %s is not trimmed: %s", brief(l), brief(got), brief(again))
	}
	leaves := proof.Leaves(l)
	if !slices.Equal(leaves, leavesOther(l)) {
		t.Fatalf("Leaves(%s) = %q", brief(l), leaves)
	}
	for _, name := range proof.Leaves(got) {
		if !slices.Contains(leaves, name) {
			t.Fatalf("the leaf %q comes by Trim(%s)", name, brief(l))
		}
	}
}

// P21.1, the chapter's example beside others, by hand.
func TestTrim(t *testing.T) {
	for _, c := range []struct{ l, want string }{
		{"asked a; released b; released a; joined a 0 2", "asked a; released a; joined a 0 1"},
		// one step
		{"asked a", "asked a"},
		{"released α-1", "released α-1"},
		{"needed a 999999999 b", "needed a 999999999 b"},
		// a last one that uses none ahead of it
		{"asked a; released a; joined a 0 1; released b", "released b"},
		{"asked a; asked a", "asked a"},
		{"asked a; released a; needed a 0 a", "needed a 0 a"},
		// all are used, whichever is A
		{"asked a; released a; joined a 0 1", "asked a; released a; joined a 0 1"},
		{"asked a; released a; joined a 1 0", "asked a; released a; joined a 1 0"},
		// both the same one
		{"asked a; joined b 0 0", "asked a; joined b 0 0"},
		{"asked a; released a; joined b 1 1", "released a; joined b 0 0"},
		{"asked a; joined b 0 0; joined c 0 0", "asked a; joined c 0 0"},
		// used by what is used, by A alone, by B alone
		{"asked a; released b; joined c 0 0; joined d 2 2", "asked a; joined c 0 0; joined d 1 1"},
		{"asked a; released b; released c; joined d 1 1; joined e 0 3", "asked a; released b; joined d 1 1; joined e 0 2"},
		{"asked a; released b; released c; joined d 1 1; joined e 3 2", "released b; released c; joined d 0 0; joined e 2 1"},
		// used twice over, and by what is not used
		{"asked a; released b; joined c 0 1; joined d 2 0; joined e 3 2", "asked a; released b; joined c 0 1; joined d 2 0; joined e 3 2"},
		{"asked a; released b; joined c 1 0; joined d 2 2; joined e 0 0", "asked a; joined e 0 0"},
		// gaps ahead, between and behind
		{"asked x; asked a; asked y; released a; asked z; joined a 1 3; asked v; needed b 5 a; joined b 5 7", "asked a; released a; joined a 0 1; needed b 5 a; joined b 2 3"},
		{"asked x; joined y 0 0; asked a; joined z 1 1; released a; joined a 4 2", "asked a; released a; joined a 1 0"},
		// alike steps are two
		{"asked a; asked a; asked a; joined a 2 1", "asked a; asked a; joined a 1 0"},
	} {
		l, want := toProof(c.l), toProof(c.want)
		if got := proof.Trim(l); !alike(got, want) {
			t.Errorf("Trim(%s) = %s, not %s", c.l, brief(got), c.want)
		}
		trims(t, l)
	}
}

// P21.1, P21.3
func TestTrimOfMany(t *testing.T) {
	for _, l := range mayBe() {
		trims(t, l)
	}
	few := 0
	small(5, func(l []api.Step) {
		trims(t, l)
		few++
	})
	if few != 3+3*4*(1+7*(1+12*(1+19))) {
		t.Errorf("there are %d small proofs", few)
	}
}

// P21.1, P21.3: longer ones, in which much or little is used.
func TestTrimOfDrawn(t *testing.T) {
	draw := drawer(211)
	whole, cut := 0, 0
	for range 4000 {
		l := drawn(draw, 1+draw(60), 1+draw(9))
		trims(t, l)
		switch n := len(proof.Trim(l)); {
		case n == len(l) && n > 4:
			whole++
		case n > 4:
			cut++
		}
	}
	if whole < 10 || cut < 1000 {
		t.Errorf("%d were trimmed already, and %d were not", whole, cut)
	}
}

// P21.1: as many steps as there may be, and such as would be gone through without end if each use were gone through.
func TestTrimOfManySteps(t *testing.T) {
	if l := chain(most); !alike(proof.Trim(l), l) {
		t.Error("a chain of which all is used is not trimmed already")
	}
	if got := proof.Trim(flat(most)); !alike(got, []api.Step{released("b")}) {
		t.Errorf("Trim of steps that use none = %s", brief(got))
	}
	l := append(flat(most-2), asked("a"), joined("a", 0, most-2))
	if got := proof.Trim(l); !alike(got, toProof("released b; asked a; joined a 0 1")) {
		t.Errorf("Trim of the first and the last ones = %s", brief(got))
	}
	// each other one is used
	l = flat(2)
	for len(l) < most-1 {
		l = append(l, joined("a", len(l)-2, 0), asked("x"))
	}
	l = append(l[:most-1], joined("b", most-2, 0))
	got := proof.Trim(l)
	if len(got) != most/2+1 || got[5] != joined("a", 4, 0) || got[most/2] != joined("b", most/2-1, 0) {
		t.Errorf("Trim of each other one = %s", brief(got))
	}
	l[most-1].A = most - 3 // at an odd number: it uses none
	if got := proof.Trim(l); !alike(got, toProof("released b; asked x; joined b 1 0")) {
		t.Errorf("Trim of what uses little = %s", brief(got))
	}
}

// P21.1: nothing is promised of lists that may not be; they are not gone through, since they may lead anywhere.
func TestTrimOfSuchAsMayNotBe(t *testing.T) {
	for _, l := range mayNot() {
		if got := proof.Trim(l); got != nil {
			t.Errorf("Trim(%s) = %s", brief(l), brief(got))
		}
	}
}

// P21.1
func TestLeaves(t *testing.T) {
	for _, c := range []struct{ l, want string }{
		{"asked a; released b; released a; joined a 0 2", "a b"},
		{"asked a", ""},
		{"released a", "a"},
		{"needed a 5 b", "a"}, // what is needed is no leaf
		{"needed b 5 a", "b"},
		{"asked a; asked b; joined c 0 1", ""},
		{"asked a; released b; joined c 0 1", "b"},
		{"released b; released a; joined c 0 1", "a b"},
		// each once
		{"released a; released a; needed a 1 b; needed a 2 c; joined a 0 1", "a"},
		{"needed b 1 x; released a; needed b 2 x; released b; needed a 1 x", "a b"},
		// rising, byte by byte
		{"released ω; released z9; released z; released a-; released a0; released α; released aα; released a", "a a- a0 aα z z9 α ω"},
		// those that the last one does not use, too
		{"released c; released b; released a; joined a 0 0", "a b c"},
		{"released c; asked a", "c"},
	} {
		l := toProof(c.l)
		if got := proof.Leaves(l); !slices.Equal(got, strings.Fields(c.want)) {
			t.Errorf("Leaves(%s) = %q, not %s", c.l, got, c.want)
		}
		trims(t, l)
	}
}

// P21.1: many names, and many steps.
func TestLeavesOfMany(t *testing.T) {
	var l []api.Step
	var want []string
	for i := range 26 * 26 * 26 {
		name := string([]byte{byte('a' + i*7%26), byte('a' + i/26%26), byte('a' + i/676)})
		want = append(want, name)
		l = append(l, released(name), needed(name, i, "x"), asked("y"))
	}
	sort.Strings(want)
	if got := proof.Leaves(l); !slices.Equal(got, want) {
		t.Errorf("of %d names there are %d", len(want), len(got))
	}
	if got := proof.Leaves(flat(most)); !slices.Equal(got, []string{"b"}) {
		t.Errorf("of one name there are %d", len(got))
	}
}
