package need_test

import (
	"slices"
	"strings"
	"testing"

	"comprador/api"
	"comprador/need"
	"comprador/rule"
)

// P8.2
func TestShow(t *testing.T) {
	for _, c := range []struct {
		l    []api.Need
		want string
	}{
		{nil, ""}, {[]api.Need{}, ""}, {named("a"), "a any"}, {list(of("a")), "a none"}, {named("α-1"), "α-1 any"},
		{list(of("a", 1002003, 1002004)), "a =1.2.3"}, {list(of("a", 0, 1002003)), "a <1.2.3"}, {list(of("a", 1002003, 1000000000)), "a >=1.2.3"}, {list(of("a", 1002000, 1005000, 3000000, 3000001)), "a >=1.2.0 <1.5.0 | =3.0.0"},
		{list(of("b", 1000000, 2000000), of("c", 0, 1000000000)), "b >=1.0.0 <2.0.0; c any"}, {list(of("a"), of("b")), "a none; b none"},
		{list(of("a", 0, 1, 2, 1000000000), of("a-", 5, 6), of("z"), of("α", 0, 1000000000)), "a =0.0.0 | >=0.0.2; a- =0.0.5; z none; α any"},
		{named("a", "b", "c", "d", "e", "f"), "a any; b any; c any; d any; e any; f any"},
	} {
		if got := need.Show(c.l); got != c.want {
			t.Errorf("Show(%v) = %q, not %q", c.l, got, c.want)
		}
	}
	for _, l := range mayBe {
		var texts []string
		for _, n := range l {
			texts = append(texts, n.Name+" "+rule.Show(n.In))
		}
		if got := need.Show(l); got != strings.Join(texts, "; ") {
			t.Errorf("Show(%v) = %q", l, got)
		}
	}
}

// P8.2: needs that may not be.
func TestShowOfOthers(t *testing.T) {
	for _, l := range mayNot {
		if got := need.Show(l); got != "" {
			t.Errorf("Show(%v) = %q", l, got)
		}
	}
}

// P8.3: what is shown of needs that may be is read as them.
func TestShownIsRead(t *testing.T) {
	for _, l := range mayBe {
		readAs(t, need.Show(l), l)
	}
	ins := [][]api.Span{nil, all, spans(0, 1), spans(0, 5), spans(7, 1000000000), spans(5, 7), spans(0, 1, 999999999, 1000000000), manySpans(6)}
	for _, names := range [][]string{{"a", "b", "c"}, {"a", "a-", "a0"}, {"z", "α", "αβγδεζηθικλμ"}} {
		for _, x := range ins {
			for _, y := range ins {
				for _, z := range ins {
					l := list(api.Need{Name: names[0], In: x}, api.Need{Name: names[1], In: y}, api.Need{Name: names[2], In: z})
					readAs(t, need.Show(l), l)
				}
			}
		}
	}
}

// P8.3: the longest text there is of needs that may be is not too long.
func TestTheLongestIsRead(t *testing.T) {
	widest := spans(100100100, 100100102, 200100100, 200100102, 300100100, 300100102, 400100100, 400100102, 500100100, 500100102, 600100100, 600100102)
	var l []api.Need
	for _, first := range []string{"α", "β", "γ", "δ", "ε", "ζ"} {
		l = append(l, api.Need{Name: first + strings.Repeat("ω", 11), In: slices.Clone(widest)})
	}
	s := need.Show(l)
	if len(s) < 1000 || len(s) > need.MaxText {
		t.Errorf("Show(%v) has %d bytes", l, len(s))
	}
	readAs(t, s, l)
}
