package tick_test

import (
	"math"
	"math/big"
	"testing"

	"comprador/api"
	"comprador/tick"
)

// P4.1
func TestLeft(t *testing.T) {
	for _, c := range []struct{ now, until, want int }{
		{0, 0, 0}, {0, 1, 1}, {3, 10, 7}, {9, 10, 1}, {10, 10, 0}, {11, 10, 0}, {10, 3, 0},
		{-1, 5, 5}, {math.MinInt, 5, 5}, {-10, -5, 0}, {-5, -10, 0}, {5, -1, 0}, {5, math.MinInt, 0}, // both are held
		{0, api.MaxTick, api.MaxTick}, {1, api.MaxTick, api.MaxTick - 1}, {api.MaxTick - 1, api.MaxTick, 1}, {api.MaxTick, api.MaxTick, 0},
		{api.MaxTick, 0, 0}, {0, api.MaxTick + 1, api.MaxTick}, {1, api.MaxTick + 1, api.MaxTick - 1}, {0, math.MaxInt, api.MaxTick},
		{api.MaxTick, api.MaxTick + 1, 0}, {api.MaxTick + 1, api.MaxTick + 9, 0}, {api.MaxTick + 9, api.MaxTick, 0},
		{api.MaxTick - 1, math.MaxInt, 1}, {math.MaxInt, api.MaxTick - 1, 0},
		{math.MinInt, math.MaxInt, api.MaxTick}, {math.MaxInt, math.MinInt, 0}, {math.MinInt, math.MinInt, 0}, {math.MaxInt, math.MaxInt, 0},
	} {
		if got := tick.Left(c.now, c.until); got != c.want {
			t.Errorf("Left(%d, %d) = %d, not %d", c.now, c.until, got, c.want)
		}
	}
}

// P4.1
func TestPassed(t *testing.T) {
	for _, c := range []struct {
		now, until int
		want       bool
	}{
		{0, 0, true}, {0, 1, false}, {1, 0, true}, {9, 10, false}, {10, 10, true}, {11, 10, true},
		{0, -1, true}, {-1, 0, true}, {-1, -1, true}, {-10, -5, true}, {-5, -10, true}, {-1, 1, false}, {0, math.MinInt, true}, // both are held
		{math.MinInt, 0, true}, {math.MinInt, 1, false}, {math.MinInt, math.MinInt, true}, {math.MinInt, math.MaxInt, false},
		{api.MaxTick - 1, api.MaxTick, false}, {api.MaxTick, api.MaxTick, true}, {api.MaxTick, api.MaxTick - 1, true},
		{api.MaxTick, api.MaxTick + 1, true}, {api.MaxTick, math.MaxInt, true}, {api.MaxTick + 1, api.MaxTick + 9, true},
		{api.MaxTick - 1, api.MaxTick + 1, false}, {api.MaxTick - 1, math.MaxInt, false},
		{math.MaxInt, api.MaxTick, true}, {math.MaxInt, math.MaxInt, true}, {math.MaxInt, math.MinInt, true},
	} {
		if got := tick.Passed(c.now, c.until); got != c.want {
			t.Errorf("Passed(%d, %d) = %v", c.now, c.until, got)
		}
	}
}

// P4.1: all samples, two by two; a tick was passed just if no ticks are left.
func TestLeftAndPassedOfManyNumbers(t *testing.T) {
	for _, now := range samples() {
		for _, until := range samples() {
			want := held(new(big.Int).Sub(heldInt(until), heldInt(now)))
			got := tick.Left(now, until)
			within(t, "Left", got)
			if int64(got) != want.Int64() {
				t.Errorf("Left(%d, %d) = %d, not %d", now, until, got, want)
			}
			if got := tick.Passed(now, until); got != (want.Sign() == 0) {
				t.Errorf("Passed(%d, %d) = %v, and %d are left", now, until, got, want)
			}
			if got > 0 && tick.Add(now, got) != tick.Hold(until) {
				t.Errorf("%d ticks behind %d it is %d, not %d", got, now, tick.Add(now, got), until)
			}
		}
	}
}

// P4.2: the later the end, the more are left; the later it is, the fewer, and what was passed stays so.
func TestLeftAndPassedStandAsTheirNumbers(t *testing.T) {
	l := samples()
	for _, a := range l {
		for i := range len(l) - 1 {
			less, more := l[i], l[i+1]
			if tick.Left(a, less) > tick.Left(a, more) || tick.Left(less, a) < tick.Left(more, a) {
				t.Errorf("%d and %d, seen from %d: what is left of them", less, more, a)
			}
			if tick.Passed(less, a) && !tick.Passed(more, a) || tick.Passed(a, more) && !tick.Passed(a, less) {
				t.Errorf("%d and %d, seen from %d: which were passed", less, more, a)
			}
		}
	}
}
