package trail_test

import (
	"slices"
	"testing"

	"comprador/api"
	"comprador/trail"
)

// states tells, of some versions and of that it is not chosen, which states a term has.
func states(x api.Term) []bool {
	l := []bool{x.None}
	for _, place := range []int{0, 1, 3, 4, 5, 6, 7, 1000000, 999999998, 999999999} {
		l = append(l, slices.ContainsFunc(x.In, func(s api.Span) bool { return s.Lo <= place && place < s.Hi }))
	}
	return l
}

// less tells whether what has some states has none that another one has not; and whether it has fewer.
func less(a, b []bool) (bool, bool) {
	fewer := false
	for i := range a {
		if a[i] && !b[i] {
			return false, false
		}
		fewer = fewer || b[i] && !a[i]
	}
	return true, fewer
}

// P23.3: entry by entry what is known only becomes less, and of what is derived it is less than ahead of it; it is never empty.
func TestOnlyLess(t *testing.T) {
	for seed := range uint64(200) {
		draw := drawer(seed + 2000)
		tr, o := trail.New(), other(nil)
		for range 60 {
			o = drawnOp(draw).do(t, tr, o)
			for n := range tr.Len() {
				e, _ := tr.At(n)
				for _, name := range three {
					was, now := states(tr.KnowAt(n, name)), states(tr.KnowAt(n+1, name))
					no, fewer := less(now, was)
					if !no || !slices.Contains(now, true) {
						t.Fatalf("of %s %v is known, and then %v", name, was, now)
					}
					if name != e.Term.Name && fewer {
						t.Fatalf("by %v %v is known of %s, and then %v", e, was, name, now)
					}
					if name == e.Term.Name && !fewer && e.Cause >= 0 {
						t.Fatalf("by %v nothing is known", e)
					}
				}
			}
		}
	}
}

// end is what a trail knows at the end of a level, all that it tells.
type end struct {
	entries []trail.Entry
	known   [3]api.Term
	picks   []api.Pick
	first   []int
}

// ended is what a trail knows.
func ended(tr *trail.Trail) end {
	var e end
	for i := range tr.Len() {
		some, _ := tr.At(i)
		e.entries = append(e.entries, some)
	}
	for i, name := range three {
		e.known[i] = tr.Know(name)
	}
	e.picks = tr.Picks()
	for _, masks := range someClashes() {
		e.first = append(e.first, tr.First(clash(masks)))
	}
	return e
}

// P23.3: behind Back all is as it was at the end of that level.
func TestBackIsAsItWas(t *testing.T) {
	for seed := range uint64(300) {
		draw := drawer(seed + 3000)
		tr := trail.New()
		ends := []end{ended(tr)} // of each level, up to the trail's
		for range 100 {
			o := drawnOp(draw)
			if o.kind == back {
				level := tr.Level()
				to := draw(level + 1)
				tr.Back(to)
				ends = ends[:to+1]
				want := ends[to]
				has(t, tr, to, want.entries...)
				got := ended(tr)
				for i := range three {
					knows(t, "Know", got.known[i], want.known[i])
				}
				if !slices.Equal(got.picks, want.picks) || !slices.Equal(got.first, want.first) {
					t.Fatalf("behind Back of %d to %d: %v, not %v", level, to, got, want)
				}
				continue
			}
			level := tr.Level()
			if o.kind == decide {
				tr.Decide(three[o.name], cuts[o.mask])
			} else {
				tr.Derive(set(three[o.name], o.mask), o.cause)
			}
			if tr.Level() > level {
				ends = append(ends, end{})
			}
			ends[len(ends)-1] = ended(tr)
		}
	}
}
