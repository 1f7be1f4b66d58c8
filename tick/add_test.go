package tick_test

import (
	"math"
	"math/big"
	"testing"

	"comprador/api"
	"comprador/tick"
)

// samples are numbers of all sizes, rising: those at the bounds, and at each power of two, with their neighbours.
func samples() []int {
	l := []int{math.MinInt, math.MinInt + 1, -1 << 41, -api.MaxTick - 1, -api.MaxTick, -1 << 32, -1000, -2, -1, 0, 1, 2, 3, 4, 5, 6, 7}
	for i := 3; i < 62; i++ {
		l = append(l, 1<<i, 1<<i+1, 1<<i+1<<(i-1), 1<<(i+1)-1)
	}
	return append(l, 1<<62, 1<<62+1, math.MaxInt-1, math.MaxInt)
}

// held is a number held, by the chapter's words, in numbers that do not go round.
func held(n *big.Int) *big.Int {
	if n.Sign() < 0 {
		return big.NewInt(0)
	}
	if most := big.NewInt(1 << 40); n.Cmp(most) > 0 {
		return most
	}
	return n
}

// heldInt is held, of an int.
func heldInt(n int) *big.Int {
	return held(big.NewInt(int64(n)))
}

// within tells of an answer that is no tick.
func within(t *testing.T, what string, got int) {
	t.Helper()
	if got < 0 || got > 1<<40 {
		t.Errorf("%s tells %d, which is no tick", what, got)
	}
}

// P4.1
func TestHold(t *testing.T) {
	for _, c := range []struct{ n, want int }{
		{math.MinInt, 0}, {-api.MaxTick, 0}, {-1, 0}, {0, 0}, {1, 1}, {300, 300},
		{1<<32 - 1, 1<<32 - 1}, {1 << 32, 1 << 32}, {1099511627775, 1099511627775}, {1099511627776, 1099511627776},
		{1099511627777, 1099511627776}, {1 << 41, api.MaxTick}, {math.MaxInt - 1, api.MaxTick}, {math.MaxInt, api.MaxTick},
	} {
		if got := tick.Hold(c.n); got != c.want {
			t.Errorf("Hold(%d) = %d, not %d", c.n, got, c.want)
		}
	}
}

// P4.1, P4.2: of numbers of all sizes; what is held is held already, and more is never told as less.
func TestHoldOfManyNumbers(t *testing.T) {
	last := 0
	for _, n := range samples() {
		got := tick.Hold(n)
		within(t, "Hold", got)
		if want := heldInt(n).Int64(); int64(got) != want {
			t.Errorf("Hold(%d) = %d, not %d", n, got, want)
		}
		if tick.Hold(got) != got {
			t.Errorf("Hold(%d) = %d", got, tick.Hold(got))
		}
		if got < last {
			t.Errorf("Hold(%d) = %d, below %d, which a lesser number told", n, got, last)
		}
		last = got
	}
}

// P4.1
func TestAdd(t *testing.T) {
	for _, c := range []struct {
		n    []int
		want int
	}{
		{nil, 0}, {[]int{}, 0}, {[]int{0}, 0}, {[]int{7}, 7}, {[]int{2, 3}, 5}, {[]int{1, 2, 3, 4, 5}, 15},
		{[]int{-1}, 0}, {[]int{math.MinInt}, 0}, {[]int{math.MaxInt}, api.MaxTick},
		{[]int{-5, 3}, 3}, {[]int{3, -5}, 3}, {[]int{10, -3, 1}, 11}, {[]int{math.MinInt, 4, math.MinInt}, 4}, // each is held, not the sum alone
		{[]int{api.MaxTick, -1}, api.MaxTick}, {[]int{-1, api.MaxTick}, api.MaxTick}, {[]int{api.MaxTick + 5, -5}, api.MaxTick},
		{[]int{api.MaxTick, 1}, api.MaxTick}, {[]int{1, api.MaxTick}, api.MaxTick}, {[]int{api.MaxTick, api.MaxTick}, api.MaxTick},
		{[]int{api.MaxTick - 1}, api.MaxTick - 1}, {[]int{api.MaxTick - 1, 1}, api.MaxTick}, {[]int{api.MaxTick - 1, 2}, api.MaxTick},
		{[]int{api.MaxTick - 3, 1, 1}, api.MaxTick - 1}, {[]int{1 << 39, 1 << 39}, api.MaxTick}, {[]int{1 << 39, 1<<39 - 1}, api.MaxTick - 1},
		{[]int{math.MaxInt, math.MaxInt}, api.MaxTick}, {[]int{math.MaxInt, 1}, api.MaxTick}, {[]int{math.MaxInt, math.MaxInt, 2}, api.MaxTick},
		{[]int{math.MaxInt, math.MinInt}, api.MaxTick}, {[]int{math.MinInt, math.MinInt}, 0}, {[]int{math.MinInt, -1, 6}, 6},
		{[]int{1 << 32, 1 << 32}, 1 << 33},
	} {
		if got := tick.Add(c.n...); got != c.want {
			t.Errorf("Add(%v) = %d, not %d", c.n, got, c.want)
		}
	}
}

// P4.1, P4.2: all samples, two by two, and a third one behind them; more is never told as less.
func TestAddOfManyNumbers(t *testing.T) {
	for _, a := range samples() {
		last := 0
		for _, b := range samples() {
			want := held(new(big.Int).Add(heldInt(a), heldInt(b)))
			got := tick.Add(a, b)
			within(t, "Add", got)
			if int64(got) != want.Int64() {
				t.Errorf("Add(%d, %d) = %d, not %d", a, b, got, want)
			}
			if tick.Add(b, a) != got {
				t.Errorf("Add(%d, %d) = %d, and not so the other way round", a, b, got)
			}
			if got < last {
				t.Errorf("Add(%d, %d) = %d, below %d, which a lesser number told", a, b, got, last)
			}
			last = got
			for _, c := range []int{math.MinInt, 0, 1, 1 << 39, math.MaxInt} {
				want := held(new(big.Int).Add(want, heldInt(c)))
				if got := tick.Add(a, b, c); int64(got) != want.Int64() {
					t.Errorf("Add(%d, %d, %d) = %d, not %d", a, b, c, got, want)
				}
			}
		}
	}
}

// P4.1, P4.2: as many as would go round 2^63, and 2^64, if their sum were held at the end alone.
func TestAddOfVeryManyNumbers(t *testing.T) {
	l := make([]int, 1<<24+2)
	for i := range l {
		l[i] = math.MaxInt
	}
	for _, n := range []int{1, 2, 1 << 22, 1 << 23, 1<<23 + 1, 1 << 24, 1<<24 + 1, len(l)} {
		if got := tick.Add(l[:n]...); got != api.MaxTick {
			t.Errorf("Add of %d times the greatest number = %d", n, got)
		}
	}
	clear(l)
	l[0], l[len(l)-1] = 5, 6
	if got := tick.Add(l...); got != 11 {
		t.Errorf("Add of 5, many zeros and 6 = %d", got)
	}
}

// P4.1, 0.5, 0.8: numbers that are handed in as a list stay as they are, and those behind its length are not read.
func TestAddLeavesItsNumbers(t *testing.T) {
	l := []int{-1, 300, math.MaxInt, 7, 8}
	if got := tick.Add(l[:2]...); got != 300 {
		t.Errorf("Add of -1 and 300 = %d", got)
	}
	if got := tick.Add(l[:3]...); got != api.MaxTick {
		t.Errorf("Add of -1, 300 and the greatest number = %d", got)
	}
	if l[0] != -1 || l[1] != 300 || l[2] != math.MaxInt || l[3] != 7 || l[4] != 8 {
		t.Errorf("Add made %v of its numbers", l)
	}
}
