package judge_test

import (
	"math"
	"slices"
	"strings"
	"testing"

	"comprador/api"
	"comprador/index"
	"comprador/judge"
)

// P22.2, by hand: the chapter's example, and others of DOC.md.
func TestAccept(t *testing.T) {
	for _, c := range []struct {
		known, root, l string
		want           bool
	}{
		{"a", "a", "asked a; released a; joined a 0 1", true},
		// either way round, with more than is used, and twice over
		{"a", "a", "asked a; released a; joined a 1 0", true},
		{"a", "a", "released a; asked a; joined a 0 1", true},
		{"a; b 1(a)", "a b", "asked a; asked b; released b; released a; needed b1 a; joined a 0 3", true},
		{"a", "a", "asked a; released a; joined a 0 1; asked a; released a; joined a 3 1", true},
		{"a; b", "a b", "asked a; released a; joined a 0 1; asked b; released b; joined b 3 4", true},
		// one step
		{"", "a!", "asked a", true},
		{"a 1", "a! b", "asked a", true},
		{"", "a", "asked a", false},
		{"a", "a", "released a", false},
		{"a 1(a2)", "a", "needed a1 a", false},
		// a need that no release meets, of root, and of each release
		{"a 1 2", "a3", "asked a; released a; joined a 0 1", true},
		{"a 1 2", "a2", "asked a; released a; joined a 0 1", false},
		{"a 1(a2)", "a", "asked a; released a; joined a 0 1; needed a1 a; joined a 2 3", true},
		{"a 1(b!)", "a", "asked a; released a; joined a 0 1; needed a1 b; joined a 2 3", true},
		{"a 1(b1); b 2", "a", "needed a1 b; released b; joined b 0 1; released a; joined a 2 3; asked a; joined a 4 5", true},
		{"a 1(b1); b 1", "a", "needed a1 b; released b; joined b 0 1; released a; joined a 2 3; asked a; joined a 4 5", false},
		{"a 1(b2); b 1 2", "a b1", "asked b; needed a1 b; joined b 0 1; released a; joined a 2 3; asked a; joined a 4 5", true},
		{"a 1(γ1); b 1(γ2)", "a b", "needed a1 γ; needed b1 γ; joined γ 0 1; released a; joined a 2 3; asked a; joined a 4 5; released b; joined b 6 7; asked b; joined b 8 9", true},
		// a broken one has no releases
		{"a! 1", "a", "asked a; released a; joined a 0 1", true},
		// always, but not last
		{"a", "a", "asked a; released a; joined a 0 1; asked a", false},
		{"a", "a", "asked a; released a; joined a 0 1; released a", false},
		{"", "a! b", "asked a; asked b", false},
		{"", "a! b", "asked b; asked a", true},
		// not always
		{"a 1", "a", "asked a; released a; joined a 0 1", false},
		{"a", "a", "asked a; released a", false},
		// one that is wrong, though it is not used
		{"a", "a", "asked a; released a; asked b; joined a 0 1", false},
		{"a", "a", "asked b; asked a; released a; joined a 1 2", false},
		{"a", "a", "asked a; released a; joined b 0 1; joined a 0 1", false},
		{"a", "a", "asked a; released a; joined a 0 1; joined a 2 2; joined a 0 1", false},
		// the first step of a proof is not always
		{"a", "", "asked a; released a; joined a 0 1", false},
		{"", "a", "asked a; released a; joined a 0 1", false},
		{"a", "b", "asked a; released a; joined a 0 1", false},
		// over another name
		{"a", "a", "asked a; released a; joined b 0 1", false},
		{"a", "a", "asked a; released a; joined aa 0 1", false},
		// no proofs that may be
		{"a", "a", "asked a; released a; joined a 0 2", false},
		{"a", "a", "asked a; released a; joined a 2 0", false},
		{"a", "a", "asked a; released a; joined a 0 -1", false},
		{"a", "a", "asked a; joined a 0 2; released a", false},
		{"a", "a", "asked a; released a; joined a 0 1; asked A", false},
	} {
		x, root, l := toIndex(t, c.known), toNeeds(c.root), toProof(c.l)
		if got := judge.Accept(x, root, l); got != c.want || accepted(x, root, l) != c.want {
			t.Errorf("of %q, %q Accept(%s) = %v", c.known, c.root, c.l, got)
		}
	}
}

// spoilt are the steps that differ from one in a field.
func spoilt(s api.Step) []api.Step {
	var l []api.Step
	for _, n := range []int{math.MinInt, -3, -2, -1, 0, 1, 2, 3, 4, 5, 6, 7, 8, 9, top - 1, top, most, 1 << 40, math.MaxInt} {
		kind, ver, a, b := s, s, s, s
		kind.Kind, ver.Ver, a.A, b.B = n, n, n, n
		l = append(l, kind, ver, a, b)
	}
	for _, word := range []string{"", "a", "b", "γ", "c", "A", "1", "a b", "a_", "\x00", "\xff", "é", "Ω", strings.Repeat("a", 12), strings.Repeat("a", 13), strings.Repeat("ω", 12), strings.Repeat("ω", 13), strings.Repeat("a", 9000)} {
		name, to := s, s
		name.Name, to.To = word, word
		l = append(l, name, to)
	}
	return l
}

// P22.2: proofs that are accepted, with one field that is another one, at each place.
func TestAcceptOfSpoiltSteps(t *testing.T) {
	count, right := 0, 0
	for _, c := range []struct{ known, root, l string }{
		{"a", "a", "asked a; released a; joined a 0 1"},
		{"a; b 1(a) 2(a)", "a b", "asked b; needed b1 a; asked a; released a; joined a 1 3; released b; joined a 2 3"},
		{"a 1(b2); b 1 2", "a b1", "asked b; needed a1 b; joined b 0 1; released a; joined a 2 3; asked a; joined a 4 5"},
		{"a 1(b) 2(b); b", "a", "asked a; released a; needed a1 b; joined a 1 2; needed a2 b; joined a 3 4; joined a 0 5; released b; joined b 6 7"},
		{"a 0(γ1); b 1(γ2)", "a b", "needed a0 γ; needed b1 γ; joined γ 0 1; released a; joined a 2 3; asked a; joined a 4 5; released b; joined b 6 7; asked b; joined b 8 9"},
	} {
		x, root, was := toIndex(t, c.known), toNeeds(c.root), toProof(c.l)
		if !judge.Accept(x, root, was) {
			t.Fatalf("%s is not accepted", c.l)
		}
		for i := range was {
			for _, s := range spoilt(was[i]) {
				l := slices.Clone(was)
				l[i] = s
				want := accepted(x, root, l)
				if got := judge.Accept(x, root, l); got != want {
					t.Fatalf("of %q, %q Accept(%s) = %v", c.known, c.root, brief(l), got)
				}
				count++
				if want && s != was[i] {
					right++
				}
			}
			for _, l := range [][]api.Step{was[:i], was[i+1:], slices.Delete(slices.Clone(was), i, i+1), slices.Insert(slices.Clone(was), i, api.Step{})} {
				if got := judge.Accept(x, root, l); got != accepted(x, root, l) {
					t.Fatalf("of %q, %q Accept(%s) = %v", c.known, c.root, brief(l), got)
				}
			}
		}
	}
	if count < 1000 || right < 5 {
		t.Errorf("of %d spoilt proofs %d are accepted", count, right)
	}
}

// P22.2: no steps are no proof, whatever is needed.
func TestAcceptOfNoSteps(t *testing.T) {
	for _, root := range []string{"", "a", "a!"} {
		for _, l := range [][]api.Step{nil, {}, {{}}, make([]api.Step, 3)} {
			x := toIndex(t, "a")
			if judge.Accept(x, toNeeds(root), l) {
				t.Errorf("of %q %v is accepted", root, l)
			}
			if got, ok := judge.Last(x, toNeeds(root), l); got != nil || ok {
				t.Errorf("Last of %v = %v, %v", l, got, ok)
			}
			if got, count := judge.Clashes(x, toNeeds(root), l); got != nil || count != 0 {
				t.Errorf("Clashes of %v = %v, %d", l, got, count)
			}
		}
	}
}

// P22.2: names, sets and versions at the bounds of what may be.
func TestAcceptAtTheBounds(t *testing.T) {
	for _, name := range []string{"a", "z", "ω", "a-", "a0", "abcdefghijkl", strings.Repeat("ω", 12)} {
		for _, ver := range []int{0, 1, 999, 1000000, top - 2, top - 1} {
			only := []api.Span{{Lo: ver, Hi: ver + 1}}
			x := index.New()
			puts(t, x, api.Entry{Name: name, Body: body(t, api.Manifest{Name: name, Releases: []api.Release{{Ver: ver, Needs: []api.Need{{Name: "b"}}}}})})
			root := []api.Need{{Name: name, In: only}}
			l := []api.Step{asked(name), released(name), joined(name, 0, 1), needed(name, ver, "b"), joined(name, 2, 3)}
			one := []api.Term{{Name: name, In: only}}
			got, count := judge.Clashes(x, root, l)
			if !judge.Accept(x, root, l) || count != 5 || !same(got[3], one) || got[4] != nil {
				t.Errorf("of %q, %d Clashes are %v, %d", name, ver, got, count)
			}
			other := slices.Clone(l)
			other[3].Ver = (ver + 1) % top
			if _, count := judge.Clashes(x, root, other); judge.Accept(x, root, other) || count != 3 {
				t.Errorf("of %q another version than %d is accepted", name, ver)
			}
		}
	}
}

// P22.1, P22.2: as many needs, releases and spans as there may be.
func TestOfFullManifest(t *testing.T) {
	m := full()
	x := index.New()
	puts(t, x, api.Entry{Name: "a", Body: body(t, m)})
	root := []api.Need{{Name: "a", In: []api.Span{{Lo: 0, Hi: top}}}}
	l := []api.Step{released("a")}
	for _, r := range m.Releases {
		for _, n := range r.Needs {
			l = append(l, needed("a", r.Ver, n.Name))
		}
	}
	l = append(l, asked("a"))
	got, count := judge.Clashes(x, root, l)
	if count != 50 || len(got[0][0].In) != 8 || len(got[2]) != 2 || len(got[2][1].In) != 7 || len(got[48]) != 2 {
		t.Errorf("Clashes = %s, %d", brief(got), count)
	}
	// Of each release, that it needs none of its own versions: 0 to 700 are not in those sets.
	at := len(l)
	l = append(l, joined("a", 0, at-1))
	for i := range m.Releases {
		l = append(l, joined("a", len(l)-1, 1+6*i))
	}
	if !judge.Accept(x, root, l) {
		got, count := judge.Last(x, root, l)
		t.Errorf("%s is not accepted: %v, %v", brief(l), got, count)
	}
}

// P22.2: as many steps as there may be, and one more.
func TestAcceptOfManySteps(t *testing.T) {
	x, root := toIndex(t, "a"), toNeeds("a")
	l := toProof("asked a; released a")
	for len(l) < most {
		l = append(l, joined("a", 0, 1))
	}
	if !judge.Accept(x, root, l) {
		t.Error("as many steps as there may be are not accepted")
	}
	if judge.Accept(x, root, append(l, joined("a", 0, 1))) {
		t.Error("more steps than there may be are accepted")
	}
	l[most/2] = asked("b")
	got, count := judge.Clashes(x, root, l)
	if judge.Accept(x, root, l) || count != most/2 || len(got) != most/2 || got[most/2-1] != nil {
		t.Errorf("with a wrong step Clashes tells %d, %d", len(got), count)
	}
	if c, ok := judge.Last(x, root, l); c != nil || ok {
		t.Errorf("with a wrong step Last = %v, %v", c, ok)
	}
}

// P22.2: a chain of many packages, each of which needs the next one, of which the last one has no releases.
func TestAcceptOfChain(t *testing.T) {
	x := index.New()
	all := names(600)
	for i, name := range all {
		m := api.Manifest{Name: name}
		if i+1 < len(all) {
			m.Releases = []api.Release{{Ver: 1, Needs: toNeeds(all[i+1])}}
		}
		puts(t, x, api.Entry{Name: name, Body: body(t, m)})
	}
	root := toNeeds(all[0])
	l := []api.Step{asked(all[0])}
	for i, name := range all {
		at := len(l)
		l = append(l, released(name), joined(name, at-1, at))
		if i+1 < len(all) {
			l = append(l, needed(name, 1, all[i+1]), joined(name, at+1, at+2))
		}
	}
	if !judge.Accept(x, root, l) {
		c, ok := judge.Last(x, root, l)
		t.Errorf("the chain is not accepted: %v, %v", c, ok)
	}
	// All needs first: a clash grows and shrinks.
	l = []api.Step{needed(all[0], 1, all[1])}
	for i, name := range all[1 : len(all)-1] {
		l = append(l, needed(name, 1, all[i+2]), released(name))
		at := len(l)
		l = append(l, joined(name, at-3, at-1), joined(name, at, at-2))
	}
	if c, ok := judge.Last(x, root, l); !ok || !same(c, []api.Term{toTerm(all[0] + "1"), toTerm(all[len(all)-1] + "!?")}) {
		t.Errorf("Last = %v, %v", c, ok)
	}
}
