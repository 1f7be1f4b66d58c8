package ver_test

import (
	"math"
	"testing"

	"comprador/api"
	"comprador/ver"
)

// edges are parts of all sizes, rising: those at the digits' and the bounds' edges.
var edges = []int{0, 1, 2, 9, 10, 11, 99, 100, 101, 499, 500, 998, 999}

// wrong are numbers that no part is.
var wrong = []int{math.MinInt, math.MinInt + 1, -1 << 61, -1 << 58, -1 << 32, -1000000, -1000, -999, -1,
	1000, 1001, 1999, 1000000, 999999999, 1000000000, 1<<32 - 1, 1 << 32, 1<<32 + 1, 1 << 58, 1<<58 + 1, 1 << 61, 1<<61 + 1, math.MaxInt}

// nowhere are numbers that are no version's place.
var nowhere = []int{math.MinInt, math.MinInt + 1, -1 << 32, -api.Top, -1000000, -1000, -1,
	1000000000, 1000000001, 1001000000, 1999999999, 1<<32 - 1, 1 << 32, 1<<32 + 1, 1<<32 + 5, 1 << 40, 1 << 62, math.MaxInt - 1, math.MaxInt}

// versions are the parts of versions, rising, part by part.
func versions() [][3]int {
	var l [][3]int
	for _, a := range edges {
		for _, b := range edges {
			for _, c := range edges {
				l = append(l, [3]int{a, b, c})
			}
		}
	}
	return l
}

// placed is the place of parts that are a version's.
func placed(t *testing.T, parts [3]int) int {
	t.Helper()
	place, ok := ver.Place(parts)
	if !ok {
		t.Fatalf("Place(%v) = %d, false", parts, place)
	}
	return place
}

// noPlace fails, if parts are told to be a version's.
func noPlace(t *testing.T, parts [3]int) {
	t.Helper()
	if place, ok := ver.Place(parts); place != 0 || ok {
		t.Errorf("Place(%v) = %d, %v", parts, place, ok)
	}
}

// P5.1
func TestPlace(t *testing.T) {
	for _, c := range []struct {
		parts [3]int
		want  int
	}{
		{[3]int{0, 0, 0}, 0}, {[3]int{0, 0, 1}, 1}, {[3]int{0, 1, 0}, 1000}, {[3]int{1, 0, 0}, 1000000},
		{[3]int{1, 2, 3}, 1002003}, {[3]int{10, 20, 30}, 10020030}, {[3]int{0, 0, 999}, 999}, {[3]int{0, 999, 0}, 999000},
		{[3]int{0, 999, 999}, 999999}, {[3]int{999, 0, 0}, 999000000}, {[3]int{999, 999, 999}, 999999999}, {[3]int{100, 0, 1}, 100000001},
	} {
		if got, ok := ver.Place(c.parts); got != c.want || !ok {
			t.Errorf("Place(%v) = %d, %v, not %d", c.parts, got, ok, c.want)
		}
		if got, ok := ver.Parts(c.want); got != c.parts || !ok {
			t.Errorf("Parts(%d) = %v, %v, not %v", c.want, got, ok, c.parts)
		}
	}
}

// P5.1: one part, two or all of them are none, whatever the others are.
func TestPlaceOfWrongParts(t *testing.T) {
	for _, n := range wrong {
		for _, a := range edges {
			for _, b := range edges {
				noPlace(t, [3]int{n, a, b})
				noPlace(t, [3]int{a, n, b})
				noPlace(t, [3]int{a, b, n})
			}
			for _, m := range wrong {
				noPlace(t, [3]int{n, m, a})
				noPlace(t, [3]int{n, a, m})
				noPlace(t, [3]int{a, n, m})
			}
		}
		for _, m := range wrong {
			for _, k := range wrong {
				noPlace(t, [3]int{n, m, k})
			}
		}
	}
}

// P5.1: parts that are none, though what they come to together is a version's place.
func TestPlaceOfPartsThatRunOver(t *testing.T) {
	for _, parts := range [][3]int{
		{0, 0, 1000}, {0, 1000, 0}, {0, 0, 1000000}, {0, 0, 999999999}, {0, 999999, 999}, {1, -1, 0}, {1, 0, -1}, {0, 1, -1}, {0, 1, -1000},
		{1, -1, 1000}, {1, -1000, 5}, {-1, 1000, 0}, {-1, 1001, 7}, {-1, 999, 1000}, {1000, -1, 0}, {1000, 0, -1}, {1000, -1000, 0}, {999, 1000, -1},
		{1 << 58, 0, 0}, {-1 << 58, 1, 2}, {0, 1 << 61, 0}, {3, -1 << 61, 4}, {1 << 58, 1 << 61, 9}, {math.MinInt, 0, 0}, {0, math.MinInt, 0}, // they go round
		{math.MaxInt, 1000, 0}, {math.MaxInt, math.MaxInt, 1001000},
	} {
		noPlace(t, parts)
	}
}

// P5.1: each number that a part may be, at each part.
func TestPlaceOfEachPart(t *testing.T) {
	for n := range 1000 {
		for i, unit := range [3]int{1000000, 1000, 1} {
			for _, m := range edges {
				parts := [3]int{m, m, m}
				parts[i] = n
				want := m*1001001 + (n-m)*unit
				if got := placed(t, parts); got != want {
					t.Errorf("Place(%v) = %d, not %d", parts, got, want)
				}
				if got, ok := ver.Parts(want); got != parts || !ok {
					t.Errorf("Parts(%d) = %v, %v, not %v", want, got, ok, parts)
				}
			}
		}
	}
}

// P5.1: places that are none's have no parts.
func TestPartsOfNoPlace(t *testing.T) {
	for _, place := range nowhere {
		if got, ok := ver.Parts(place); got != [3]int{} || ok {
			t.Errorf("Parts(%d) = %v, %v", place, got, ok)
		}
	}
}

// P5.1: places in between, at steps that meet all parts; what they have is a version, and it stands there.
func TestPartsOfManyPlaces(t *testing.T) {
	for place := 0; place < 1000000000; place += 1009 {
		parts, ok := ver.Parts(place)
		if !ok {
			t.Fatalf("Parts(%d) = %v, false", place, parts)
		}
		sum := 0
		for _, n := range parts {
			if n < 0 || n > 999 {
				t.Fatalf("Parts(%d) = %v", place, parts)
			}
			sum = sum*1000 + n
		}
		if sum != place || placed(t, parts) != place {
			t.Fatalf("Parts(%d) = %v, whose place is %d", place, parts, sum)
		}
	}
}

// P5.3: places stand as versions do, part by part: they rise with the major, then with the minor, then with the patch.
func TestPlacesStandAsVersions(t *testing.T) {
	last := -1
	for _, parts := range versions() {
		got := placed(t, parts)
		if got <= last || got >= api.Top {
			t.Errorf("Place(%v) = %d, behind %d", parts, got, last)
		}
		last = got
	}
	// Each place has the version that is next behind that of the place ahead of it.
	was, _ := ver.Parts(0)
	for place := 1; place < 3000000; place++ {
		is, ok := ver.Parts(place)
		if !ok || is != next(was) {
			t.Fatalf("Parts(%d) = %v, %v, and %v stands ahead of it", place, is, ok, was)
		}
		was = is
	}
}

// next are the parts of the version that is next behind another one.
func next(parts [3]int) [3]int {
	for i := 2; i >= 0; i-- {
		if parts[i] < 999 {
			parts[i]++
			return parts
		}
		parts[i] = 0
	}
	return parts
}
