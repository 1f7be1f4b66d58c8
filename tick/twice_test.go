package tick_test

import (
	"math"
	"math/big"
	"testing"
	"time"

	"comprador/api"
	"comprador/tick"
)

// times are how often a number may be doubled, rising: those up to where all numbers are MaxTick, and beyond.
func times() []int {
	l := []int{math.MinInt, -1 << 32, -2}
	for k := -1; k < 70; k++ {
		l = append(l, k)
	}
	return append(l, 127, 128, 129, 255, 256, 257, 1<<16, 1<<32-1, 1<<32, 1<<32+1, 1<<62, math.MaxInt-1, math.MaxInt)
}

// atOnce fails, if a call is not done soon.
func atOnce(t *testing.T, call func()) {
	t.Helper()
	done := make(chan struct{})
	go func() {
		defer close(done)
		call()
	}()
	select {
	case <-done:
	case <-time.After(time.Minute):
		t.Fatal("it is not told at once")
	}
}

// P4.1
func TestTwice(t *testing.T) {
	for _, c := range []struct{ n, k, want int }{
		{3, 0, 3}, {3, 1, 6}, {3, 2, 12}, {1, 10, 1024}, {5, 3, 40}, {2, 2, 8},
		{3, -1, 3}, {3, math.MinInt, 3}, {0, -1, 0}, {-3, -1, 0}, {api.MaxTick + 1, -1, api.MaxTick}, // k below 0 counts as 0; n is held then, too
		{0, 0, 0}, {0, 1, 0}, {0, 100, 0}, {-1, 0, 0}, {-1, 1, 0}, {-3, 50, 0}, {math.MinInt, 1, 0}, {math.MinInt, 64, 0},
		{1, 31, 1 << 31}, {1, 32, 1 << 32}, {1, 39, 1 << 39}, {1, 40, api.MaxTick}, {1, 41, api.MaxTick},
		{3, 38, 3 << 38}, {3, 39, api.MaxTick}, {3, 40, api.MaxTick},
		{1<<39 - 1, 1, api.MaxTick - 2}, {1 << 39, 1, api.MaxTick}, {1<<39 + 1, 1, api.MaxTick},
		{api.MaxTick - 1, 0, api.MaxTick - 1}, {api.MaxTick - 1, 1, api.MaxTick}, {api.MaxTick, 0, api.MaxTick}, {api.MaxTick, 1, api.MaxTick},
		{api.MaxTick + 1, 0, api.MaxTick}, {math.MaxInt, 0, api.MaxTick}, {math.MaxInt, 1, api.MaxTick}, {math.MaxInt, 2, api.MaxTick}, {math.MaxInt, 63, api.MaxTick},
		{1, 62, api.MaxTick}, {1, 63, api.MaxTick}, {1, 64, api.MaxTick}, {1, 65, api.MaxTick}, {6, 62, api.MaxTick}, {5, 64, api.MaxTick},
		{1, 128, api.MaxTick}, {1, 256, api.MaxTick}, {1, 1 << 32, api.MaxTick}, {5, 1<<32 + 1, api.MaxTick},
	} {
		if got := tick.Twice(c.n, c.k); got != c.want {
			t.Errorf("Twice(%d, %d) = %d, not %d", c.n, c.k, got, c.want)
		}
	}
}

// P4.1: k may be as great as an int can be, of a number that stays 0, of MaxTick, and of others.
func TestTwiceIsToldAtOnce(t *testing.T) {
	for _, c := range []struct{ n, want int }{
		{0, 0}, {-1, 0}, {math.MinInt, 0}, {1, api.MaxTick}, {3, api.MaxTick}, {1 << 32, api.MaxTick},
		{api.MaxTick - 1, api.MaxTick}, {api.MaxTick, api.MaxTick}, {api.MaxTick + 1, api.MaxTick}, {math.MaxInt, api.MaxTick},
	} {
		for _, k := range []int{1 << 40, 1 << 62, math.MaxInt - 1, math.MaxInt} {
			atOnce(t, func() {
				if got := tick.Twice(c.n, k); got != c.want {
					t.Errorf("Twice(%d, %d) = %d, not %d", c.n, k, got, c.want)
				}
			})
		}
		atOnce(t, func() {
			if got, want := tick.Twice(c.n, math.MinInt), tick.Hold(c.n); got != want {
				t.Errorf("Twice(%d, the least number) = %d, not %d", c.n, got, want)
			}
		})
	}
}

// P4.1: all samples and all times, held against a second reckoning, in numbers that do not go round.
func TestTwiceOfManyNumbers(t *testing.T) {
	for _, n := range samples() {
		want := heldInt(n)
		last := 0
		for _, k := range times() {
			for range max(0, min(k-last, 70)) {
				want = held(new(big.Int).Lsh(want, 1))
			}
			last = max(k, 0)
			got := tick.Twice(n, k)
			within(t, "Twice", got)
			if int64(got) != want.Int64() {
				t.Errorf("Twice(%d, %d) = %d, not %d", n, k, got, want)
			}
		}
	}
}

// P4.2: more is never told as less: neither of a greater number, nor of one that is doubled more often.
func TestTwiceStandsAsItsNumbers(t *testing.T) {
	l, ks := samples(), times()
	for i, n := range l {
		for j, k := range ks {
			got := tick.Twice(n, k)
			if i > 0 && got < tick.Twice(l[i-1], k) {
				t.Errorf("Twice(%d, %d) is less than that of %d", n, k, l[i-1])
			}
			if j > 0 && got < tick.Twice(n, ks[j-1]) {
				t.Errorf("Twice(%d, %d) is less than that of %d times", n, k, ks[j-1])
			}
		}
	}
}

// P4.2: doubling often enough tells MaxTick of any number above 0, and of no other.
func TestTwiceOftenEnough(t *testing.T) {
	for _, n := range samples() {
		for _, k := range []int{40, 41, 63, 64, 1000, math.MaxInt} {
			if got := tick.Twice(n, k); n > 0 && got != api.MaxTick || n <= 0 && got != 0 {
				t.Errorf("Twice(%d, %d) = %d", n, k, got)
			}
		}
	}
}
