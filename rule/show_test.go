package rule_test

import (
	"math"
	"slices"
	"strings"
	"testing"

	"comprador/api"
	"comprador/rule"
	"comprador/span"
)

// cuts are places that cut all versions into cells, rising; some cells are of one version.
var cuts = []int{0, 1, 2, 1000, 1001, 500000, 1000000, 1002003, 1002004, 5000000, 998999999, 999000000, 999999998, 999999999, 1000000000}

// cells are how many cells there are.
var cells = len(cuts) - 1

// set is the set of a mask's cells.
func set(mask int) []api.Span {
	var l []api.Span
	for i := range cells {
		if mask>>i&1 == 0 {
			continue
		}
		if i > 0 && mask>>(i-1)&1 == 1 {
			l[len(l)-1].Hi = cuts[i+1]
			continue
		}
		l = append(l, api.Span{Lo: cuts[i], Hi: cuts[i+1]})
	}
	return l
}

// P7.2
func TestShow(t *testing.T) {
	for _, c := range []struct {
		l    []api.Span
		want string
	}{
		{nil, "none"}, {[]api.Span{}, "none"}, {spans(0, 1000000000), "any"},
		{spans(1002003, 1002004), "=1.2.3"}, {spans(0, 1), "=0.0.0"}, {spans(999999999, 1000000000), "=999.999.999"},
		{spans(0, 2), "<0.0.2"}, {spans(0, 1002003), "<1.2.3"}, {spans(0, 999999999), "<999.999.999"},
		{spans(1, 1000000000), ">=0.0.1"}, {spans(1002003, 1000000000), ">=1.2.3"}, {spans(999999998, 1000000000), ">=999.999.998"},
		{spans(1, 3), ">=0.0.1 <0.0.3"}, {spans(1002000, 1005000), ">=1.2.0 <1.5.0"}, {spans(1, 999999999), ">=0.0.1 <999.999.999"}, {spans(999999997, 999999999), ">=999.999.997 <999.999.999"},
		{spans(1002000, 1005000, 3000000, 3000001), ">=1.2.0 <1.5.0 | =3.0.0"},
		{spans(0, 1, 2, 1000000000), "=0.0.0 | >=0.0.2"}, {spans(0, 999999998, 999999999, 1000000000), "<999.999.998 | =999.999.999"},
		{spans(0, 5, 6, 7, 8, 11, 1000000, 1000000000), "<0.0.5 | =0.0.6 | >=0.0.8 <0.0.11 | >=1.0.0"},
		{spans(1, 2, 3, 4, 5, 6, 7, 8, 9, 10, 11, 12, 13, 14, 15, 17), "=0.0.1 | =0.0.3 | =0.0.5 | =0.0.7 | =0.0.9 | =0.0.11 | =0.0.13 | >=0.0.15 <0.0.17"}, // more than a need may have
	} {
		if got := rule.Show(c.l); got != c.want {
			t.Errorf("Show(%v) = %q, not %q", c.l, got, c.want)
		}
	}
}

// P7.2: lists that are no sets.
func TestShowOfNoSet(t *testing.T) {
	for _, l := range [][]api.Span{
		spans(0, 0), spans(5, 5), spans(5, 4), spans(-1, 5), spans(-1, 0), spans(-2, -1), spans(0, 1000000001), spans(5, 1000000001), spans(999999999, 1000000001), spans(1000000000, 1000000001), spans(1000000000, 1000000000),
		spans(-1, 1000000000), spans(-1, 1000000001), spans(math.MinInt, math.MaxInt), spans(math.MaxInt, math.MinInt), spans(math.MaxInt-1, math.MaxInt), spans(0, math.MaxInt), spans(math.MinInt, 5), spans(1<<32, 1<<32+1), spans(1<<32+5, 1<<32+6),
		spans(1, 5, 5, 9), spans(1, 5, 3, 9), spans(5, 9, 1, 3), spans(1, 9, 1, 9), spans(1, 9, 3, 5), spans(1, 2, 3, 3), spans(3, 3, 5, 6), spans(0, 0, 0, 0), spans(1, 2, 5, 4), spans(1, 2, 4, 6, 6, 7), spans(0, 1000000000, 1000000001, 1000000002), spans(0, 1, 1, 1000000000),
	} {
		if got := rule.Show(l); got != "" {
			t.Errorf("Show(%v) = %q", l, got)
		}
	}
}

// P7.3: what is shown of a set is read as that set; one of more than MaxSpans spans is too long.
func TestShownIsRead(t *testing.T) {
	long := 0
	for mask := range 1 << cells {
		l := set(mask)
		s := rule.Show(l)
		if strings.Count(s, "|") != max(len(l)-1, 0) || s != strings.TrimSpace(s) {
			t.Errorf("Show(%v) = %q", l, s)
		}
		if len(l) > api.MaxSpans {
			long++
			wrongAt(t, s, 0, api.ErrLong)
			continue
		}
		readAs(t, s, l)
	}
	if long == 0 {
		t.Error("no set was too long")
	}
	// The longest text there is of a set that may be a need's.
	widest := spans(100100100, 100100102, 200100100, 200100102, 300100100, 300100102, 400100100, 400100102, 500100100, 500100102, 600100100, 600100102)
	readAs(t, rule.Show(widest), widest)
}

// P7.3: of spans at all edges, two by two.
func TestEachSpanShownIsRead(t *testing.T) {
	var places []int
	for _, v := range versions() {
		places = append(places, placeOf(v))
	}
	places = append(places, api.Top)
	for i, lo := range places {
		for _, hi := range places[i+1:] {
			l := spans(lo, hi)
			s := rule.Show(l)
			if got, at, e := rule.Read(s); !slices.Equal(got, l) || at != 0 || e != api.OK {
				t.Fatalf("Read(%q) = %v, %d, %d, not %v", s, got, at, e, l)
			}
			want := textOf(lo)
			switch {
			case lo == 0 && hi == api.Top:
				want = "any"
			case hi == lo+1:
				want = "=" + want
			case lo == 0:
				want = "<" + textOf(hi)
			case hi == api.Top:
				want = ">=" + want
			default:
				want = ">=" + want + " <" + textOf(hi)
			}
			if s != want {
				t.Fatalf("Show(%v) = %q, not %q", l, s, want)
			}
		}
	}
}

// rules are some that may be, of up to three spans each.
var rules = []string{"any", "none", "=1.0.0", "=0.0.0", ">=0.0.0", ">999.999.999", "<0.0.0", "^1.2.0", "~1.2.0", "<=1.2.3", ">1.2.3",
	"^0.3.0", "^0.0.0", "~0.0.7", "<1.0.0|>2.0.0", "^1.2.0 <1.5.0 | =3.0.0", "=1.0.0|=2.0.0|=3.0.0", " any ", ">=1.0.0 <1.0.1", "=1.0.0 =2.0.0", "none|none"}

// P7.3: two rules with | between have what one of them has.
func TestRulesWithMarksBetween(t *testing.T) {
	for _, a := range rules {
		for _, b := range rules {
			one, _, e := rule.Read(a)
			other, _, f := rule.Read(b)
			if e != api.OK || f != api.OK {
				t.Fatalf("Read of %q or %q is wrong", a, b)
			}
			readAs(t, a+"|"+b, span.Union(one, other))
			readAs(t, a+" | "+b, span.Union(one, other))
		}
	}
}

// P7.3: two pieces of comparisons with a blank between have what both have.
func TestPiecesWithBlanksBetween(t *testing.T) {
	for _, a := range rules {
		for _, b := range rules {
			if strings.ContainsAny(a+b, "|y") || strings.Contains(a+b, "none") {
				continue
			}
			one, _, _ := rule.Read(a)
			other, _, _ := rule.Read(b)
			readAs(t, a+" "+b, span.Meet(one, other))
			readAs(t, a+"   "+b, span.Meet(one, other))
		}
	}
}
