package judge_test

import (
	"slices"
	"testing"

	"comprador/api"
	"comprador/clash"
	"comprador/fit"
	"comprador/index"
	"comprador/judge"
	"comprador/plain"
	"comprador/proof"
)

// unsolved fails, if one of some picks is a solution.
func unsolved(t *testing.T, x *index.Index, root []api.Need, l []api.Step, some [][]api.Pick) {
	t.Helper()
	for _, p := range some {
		if fit.Solution(x, root, p) {
			t.Fatalf("of %v %s is accepted, but %v is a solution", root, brief(l), p)
		}
	}
	if p, kind, _ := plain.Solve(x, root, 1<<20); kind == api.Found {
		t.Fatalf("of %v %s is accepted, but %v is found", root, brief(l), p)
	}
}

// P22.3: of what is accepted there is no solution, whatever more is known; and where there is none, by what is known of all, some proof is accepted.
func TestAcceptedHasNoSolution(t *testing.T) {
	draw := drawer(223)
	some := choices()
	found, solved, grown := 0, 0, 0
	for range 1500 {
		x, others := drawnIndex(t, draw)
		root := drawnNeeds(draw, 3)
		l, ok := search(x, root)
		if got := judge.Accept(x, root, l); got != ok {
			t.Fatalf("of %v Accept(%s) = %v", root, brief(l), got)
		}
		_, kind, _ := plain.Solve(x, root, 1<<20)
		if len(others) == 0 && ok != (kind == api.Nothing || kind == api.Broken) {
			t.Fatalf("of %v the plain search tells %d, but that a proof is found is %v", root, kind, ok)
		}
		if !ok {
			if kind == api.Found {
				solved++
			}
			continue
		}
		found++
		unsolved(t, x, root, l, some)
		want, _ := judge.Clashes(x, root, l)
		for _, e := range others {
			puts(t, x, e)
			grown++
			got, _ := judge.Clashes(x, root, l)
			if !judge.Accept(x, root, l) || !slices.EqualFunc(got, want, same) {
				t.Fatalf("with %q, too, of %v %s is not accepted", e.Name, root, brief(l))
			}
			unsolved(t, x, root, l, some)
		}
	}
	if found < 200 || solved < 200 || grown < 30 {
		t.Errorf("%d proofs were found, %d had a solution, %d times more was known", found, solved, grown)
	}
}

// P22.3: what is accepted is so trimmed, too, with the clashes as they were of the steps that are left.
func TestAcceptedIsSoTrimmed(t *testing.T) {
	draw := drawer(224)
	shorter, whole := 0, 0
	for range 3000 {
		x, _ := drawnIndex(t, draw)
		root := drawnNeeds(draw, 3)
		l, ok := search(x, root)
		if !ok {
			l = drawnProof(draw, x, root)
		}
		trim := proof.Trim(l)
		c, last := judge.Last(x, root, l)
		cut, still := judge.Last(x, root, trim)
		if last && (!still || !same(c, cut)) || judge.Accept(x, root, l) && !judge.Accept(x, root, trim) {
			t.Fatalf("of %v Last(%s) = %v, and trimmed %v, %v", root, brief(l), c, cut, still)
		}
		if !last {
			continue
		}
		was, _ := judge.Clashes(x, root, l)
		var left [][]api.Term
		used := uses(l, len(l)-1)
		for i, c := range was {
			if used[i] {
				left = append(left, c)
			}
		}
		made(t, x, root, trim, left)
		if ok && len(trim) < len(l) {
			shorter++
		}
		if ok && len(trim) == len(l) {
			whole++
		}
	}
	if shorter < 200 || whole < 10 {
		t.Errorf("%d became shorter, %d did not", shorter, whole)
	}
}

// P22.3: if the clash of a step holds of picks, one of the facts that it uses does.
func TestWhatHolds(t *testing.T) {
	draw := drawer(225)
	some := choices()
	holds := 0
	for range 400 {
		x, _ := drawnIndex(t, draw)
		root := drawnNeeds(draw, 3)
		l := drawnProof(draw, x, root)
		clashes, count := judge.Clashes(x, root, l)
		masks := allMasks(x, root, l)
		for i, c := range clashes[:count] {
			if l[i].Kind != 4 {
				continue
			}
			used := uses(l, i)
			for _, p := range some {
				is := clash.Holds(c, p)
				if is != masks[i].holds(p) {
					t.Fatalf("whether %v holds of %v: %v", c, p, is)
				}
				if is && !factHolds(l, clashes, used, p) {
					t.Fatalf("of %v, of %s the clash of %d, %v, holds of %v, but no fact", root, brief(l), i, c, p)
				}
				if is {
					holds++
				}
			}
		}
	}
	if holds < 10000 {
		t.Errorf("%d times a clash held", holds)
	}
}

// factHolds tells whether the fact of one of some steps holds of picks.
func factHolds(l []api.Step, clashes [][]api.Term, some map[int]bool, p []api.Pick) bool {
	for i := range some {
		if l[i].Kind != 4 && clash.Holds(clashes[i], p) {
			return true
		}
	}
	return false
}
