package trail_test

import (
	"testing"

	"comprador/trail"
)

// P23.1, P23.2: all courses of up to four of some things that may be done come to what they come to in another way.
func TestAllCourses(t *testing.T) {
	ops, clashes := someOps(), someClashes()
	courses := [][]op{nil}
	for range 4 {
		var longer [][]op
		for _, l := range courses {
			for _, o := range ops {
				longer = append(longer, append(l[:len(l):len(l)], o))
			}
		}
		for _, l := range longer {
			tr, o := trail.New(), other(nil)
			for _, p := range l {
				o = p.do(t, tr, o)
			}
			o.is(t, tr, clashes...)
		}
		courses = longer
	}
}

// P23.1, P23.2: drawn courses do so, behind each few steps.
func TestDrawnCourses(t *testing.T) {
	for seed := range uint64(300) {
		draw := drawer(seed)
		tr, o := trail.New(), other(nil)
		for range 100 {
			o = drawnOp(draw).do(t, tr, o)
			if draw(10) == 0 {
				o.is(t, tr, drawnClashes(draw, 20)...)
			}
		}
	}
}

// P23.2: First of each clash of one name's term, by drawn courses.
func TestFirstOfEachTerm(t *testing.T) {
	var each [][3]int
	for mask := 1; mask < every; mask++ {
		each = append(each, [3]int{mask, every, every}, [3]int{every, mask, every}, [3]int{every, every, mask})
	}
	for seed := range uint64(100) {
		draw := drawer(seed + 1000)
		tr, o := trail.New(), other(nil)
		for range 15 {
			o = drawnOp(draw).do(t, tr, o)
		}
		o.is(t, tr, each...)
	}
}

// Two trails know nothing of one another.
func TestTwoTrails(t *testing.T) {
	draw := drawer(77)
	var trails [5]*trail.Trail
	var others [5]other
	for i := range trails {
		trails[i] = trail.New()
	}
	for range 500 {
		i, j := draw(5), draw(5)
		others[i] = drawnOp(draw).do(t, trails[i], others[i])
		others[j].is(t, trails[j])
	}
}
