package ver_test

import (
	"math"
	"testing"

	"comprador/api"
	"comprador/ver"
)

// P5.1
func TestAfter(t *testing.T) {
	for _, c := range []struct{ place, part, want int }{
		{1002003, 0, 2000000}, {1002003, 1, 1003000}, {1002003, 2, 1002004},
		{0, 0, 1000000}, {0, 1, 1000}, {0, 2, 1},
		{1000000, 0, 2000000}, {1000000, 1, 1001000}, {1000000, 2, 1000001}, {5000, 1, 6000}, // those that begin with a part are not After it
		{999, 2, 1000}, {999, 1, 1000}, {999, 0, 1000000}, {999999, 2, 1000000}, {999999, 1, 1000000}, {999999, 0, 1000000}, // they carry over
		{5999999, 1, 6000000}, {5999000, 1, 6000000}, {5998999, 1, 5999000}, {5998999, 2, 5999000},
		{998999999, 0, 999000000}, {998999999, 1, 999000000}, {998999999, 2, 999000000},
		{999000000, 0, 1000000000}, {999999000, 1, 1000000000}, {999999999, 0, 1000000000}, {999999999, 1, 1000000000}, {999999999, 2, 1000000000}, // Top: no version is there
		{999998999, 1, 999999000}, {999999998, 2, 999999999},
	} {
		if got := ver.After(c.place, c.part); got != c.want {
			t.Errorf("After(%d, %d) = %d, not %d", c.place, c.part, got, c.want)
		}
	}
}

// P5.1: places that are none's, and parts that there are not.
func TestAfterOfNone(t *testing.T) {
	parts := []int{math.MinInt, -1 << 32, -3, -2, -1, 3, 4, 5, 1000, 1 << 32, 1<<32 + 1, math.MaxInt}
	for _, place := range nowhere {
		for _, part := range append([]int{0, 1, 2}, parts...) {
			if got := ver.After(place, part); got != 0 {
				t.Errorf("After(%d, %d) = %d", place, part, got)
			}
		}
	}
	for _, part := range parts {
		for _, place := range []int{0, 1, 999, 1002003, 999999999} {
			if got := ver.After(place, part); got != 0 {
				t.Errorf("After(%d, %d) = %d", place, part, got)
			}
		}
	}
}

// P5.1: of many versions: the part is one more, carried over into those ahead of it, and those behind it are 0.
func TestAfterOfManyVersions(t *testing.T) {
	for _, parts := range versions() {
		place := placed(t, parts)
		for part := range 3 {
			want, more := 0, parts
			more[part]++
			clear(more[part+1:])
			for _, n := range more {
				want = want*1000 + n
			}
			if got := ver.After(place, part); got != want {
				t.Errorf("After of %v, %d, = %d, not %d", parts, part, got, want)
			}
		}
	}
}

// P5.3: what is After a version is above it, and no version between has more of a part that is no lower; itself it has, or it is Top.
func TestNoVersionBetween(t *testing.T) {
	for _, parts := range versions() {
		place := placed(t, parts)
		for part := range 3 {
			after := ver.After(place, part)
			if after <= place || after > api.Top {
				t.Fatalf("After of %v, %d, = %d", parts, part, after)
			}
			// Of the major there may be many between: the first and the last ones, and some in the middle.
			step := max(1, (after-place)/50)
			for at := place; at < after; at += step {
				held(t, parts, part, at)
			}
			held(t, parts, part, after-1)
			if is, ok := ver.Parts(after); ok && !above(is, parts, part) {
				t.Errorf("After of %v, %d, is %v", parts, part, is)
			}
		}
	}
}

// above tells whether a version has more than another one of a part that is no lower than one.
func above(a, b [3]int, part int) bool {
	for i := range part + 1 {
		if a[i] > b[i] {
			return true
		}
	}
	return false
}

// held fails, if a place that is below what is After a version has more than it of the part, or of one ahead.
func held(t *testing.T, parts [3]int, part, place int) {
	t.Helper()
	if is, ok := ver.Parts(place); !ok || above(is, parts, part) {
		t.Errorf("%v, at %d, is below what is After of %v, %d", is, place, parts, part)
	}
}
