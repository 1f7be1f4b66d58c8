package proof_test

import (
	"math"
	"slices"
	"testing"

	"comprador/api"
	"comprador/proof"
)

// checks fails, if Check tells something else of a list.
func checks(t *testing.T, l []api.Step, want bool) {
	t.Helper()
	if got := proof.Check(l); got != want {
		t.Fatalf("Check(%s) = %v", brief(l), got)
	}
}

// P21.1
func TestCheck(t *testing.T) {
	for _, l := range mayBe() {
		checks(t, l, true)
	}
	for _, l := range mayNot() {
		checks(t, l, false)
	}
}

// P21.1: each field of a step, at each place of a proof, against another way to tell.
func TestCheckOfAllSteps(t *testing.T) {
	some := map[int]int{}
	numbers := []int{math.MinInt, -1, 0, 1, 2, 3, 4, math.MaxInt}
	for _, kind := range []int{math.MinInt, -1, 0, 1, 2, 3, 4, 5, 6, math.MaxInt} {
		for _, name := range []string{"", "a", "α-1", "1a", "abcdefghijklm"} {
			for _, to := range []string{"", "a", "ω", "B", "abcdefghijklm"} {
				for _, ver := range []int{math.MinInt, -1, 0, 1, top - 1, top, top + 1, math.MaxInt} {
					for _, a := range numbers {
						for _, b := range numbers {
							s := api.Step{Kind: kind, Name: name, Ver: ver, To: to, A: a, B: b}
							for ahead := range 4 {
								l := append(flat(ahead), s)
								want := mayBeStep(s, ahead)
								checks(t, l, want)
								if want {
									some[kind]++
								}
							}
						}
					}
				}
			}
		}
	}
	// two names: each of four places; three versions, two of what is needed; 0, 1, 4 and 9 pairs
	if len(some) != 4 || some[1] != 8 || some[2] != 8 || some[3] != 48 || some[4] != 28 {
		t.Errorf("of the kinds there are %v that may be", some)
	}
}

// P21.1: what is wrong at one place is wrong, whatever else there is.
func TestCheckOfOneWrongStep(t *testing.T) {
	for _, l := range [][]api.Step{chain(9), flat(9), toProof("asked a; released b; needed a 5 b; joined a 0 2; joined b 3 1")} {
		for i := range l {
			for _, change := range []func(s *api.Step){
				func(s *api.Step) { s.Kind = 0 },
				func(s *api.Step) { s.Kind = 5 },
				func(s *api.Step) { s.Kind = 7 - s.Kind }, // a kind with other fields
				func(s *api.Step) { s.Name = "" },
				func(s *api.Step) { s.Name = "A" },
				func(s *api.Step) { s.Ver = -1 },
				func(s *api.Step) { s.Ver = top },
				func(s *api.Step) { s.To += "_" },
				func(s *api.Step) { s.A = i },
				func(s *api.Step) { s.B = i + 1 },
				func(s *api.Step) { s.A = -1 },
				func(s *api.Step) { s.B = -1 },
			} {
				wrong := slices.Clone(l)
				change(&wrong[i])
				checks(t, wrong, mayBeStep(wrong[i], i))
			}
		}
	}
}

// P21.1: how far ahead a step may be that is used.
func TestCheckOfJoins(t *testing.T) {
	for ahead := range 200 {
		for _, l := range [][]api.Step{flat(ahead), chain(ahead)} {
			for n := -2; n < ahead+3; n++ {
				want := n >= 0 && n < ahead
				checks(t, append(slices.Clone(l), joined("a", n, 0)), want)
				checks(t, append(slices.Clone(l), joined("a", 0, n)), want)
				checks(t, append(slices.Clone(l), joined("a", n, n), asked("b")), want)
			}
		}
	}
}

// P21.1: how many steps there may be.
func TestCheckOfManySteps(t *testing.T) {
	many := flat(most + 2)
	for size, want := range map[int]bool{0: false, 1: true, 2: true, most / 2: true, most - 1: true, most: true, most + 1: false, most + 2: false} {
		checks(t, many[:size], want)
	}
	checks(t, chain(most), true)
	checks(t, append(flat(most-1), joined("a", most-2, 0)), true)
	checks(t, append(flat(most-1), joined("a", most-1, 0)), false)
	checks(t, append(flat(most-1), asked("A")), false)
}

// sames fails, if Same tells something else of two lists, in one order or the other.
func sames(t *testing.T, a, b []api.Step, want bool) {
	t.Helper()
	if proof.Same(a, b) != want || proof.Same(b, a) != want {
		t.Fatalf("Same(%s, %s) = %v, the other way round %v", brief(a), brief(b), proof.Same(a, b), proof.Same(b, a))
	}
}

// P21.1: of any lists, that may be or not.
func TestSame(t *testing.T) {
	l := append(mayBe(), mayNot()...)
	for _, a := range l {
		sames(t, a, slices.Clone(a), true)
		for _, b := range l {
			if got, want := proof.Same(a, b), alike(a, b); got != want {
				t.Fatalf("Same(%s, %s) = %v", brief(a), brief(b), got)
			}
		}
	}
	sames(t, nil, []api.Step{}, true)
	sames(t, nil, []api.Step{{}}, false)
	sames(t, []api.Step{{}}, []api.Step{{}}, true)
}

// P21.1: lists that part in one field, at one place, or in how long they are.
func TestSameOfUnlike(t *testing.T) {
	for _, l := range append(mayBe(), mayNot()...) {
		sames(t, l, append(slices.Clone(l), api.Step{}), false)
		sames(t, l, append([]api.Step{asked("y")}, l...), false)
		for i := range l {
			for _, change := range []func(s *api.Step){
				func(s *api.Step) { s.Kind++ },
				func(s *api.Step) { s.Name += "a" },
				func(s *api.Step) { s.Ver-- },
				func(s *api.Step) { s.To += "\x00" },
				func(s *api.Step) { s.A++ },
				func(s *api.Step) { s.B = ^s.B },
			} {
				other := slices.Clone(l)
				change(&other[i])
				sames(t, l, other, false)
			}
			sames(t, l, l[:i], false)
		}
	}
	sames(t, toProof("asked a; released b"), toProof("released b; asked a"), false)
	sames(t, toProof("asked a; asked b; joined a 0 1"), toProof("asked a; asked b; joined a 1 0"), false)
	sames(t, flat(most+1), flat(most+1), true)
	sames(t, flat(most+1), flat(most), false)
}
