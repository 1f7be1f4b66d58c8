package need_test

import (
	"regexp"
	"strings"
	"testing"

	"comprador/api"
	"comprador/need"
	"comprador/rule"
)

// readAs fails, if a text is not read as needs.
func readAs(t *testing.T, s string, want []api.Need) {
	t.Helper()
	if got, at, e := need.Read(s); !alike(got, want) || at != 0 || e != api.OK {
		t.Errorf("Read(%.80q) = %v, %d, %d, not %v", s, got, at, e, want)
	}
}

// wrongAt fails, if of a text another error is told, or another place.
func wrongAt(t *testing.T, s string, at int, e api.Errno) {
	t.Helper()
	if got, place, f := need.Read(s); got != nil || place != at || f != e {
		t.Errorf("Read(%.80q) = %v, %d, %d, not at %d, %d", s, got, place, f, at, e)
	}
}

// P8.2
func TestRead(t *testing.T) {
	for _, c := range []struct {
		s    string
		want []api.Need
	}{
		{"", nil}, {" ", nil}, {"     ", nil},
		{"a", named("a")}, {" a", named("a")}, {"a ", named("a")}, {"   a   ", named("a")}, {"a any", named("a")}, {"   a   any   ", named("a")}, {"α-1", named("α-1")}, {"any", named("any")}, {"any any", named("any")}, {"none", named("none")},
		{"a none", list(of("a"))}, {"none none", list(of("none"))}, {"a =1.2.3", list(of("a", 1002003, 1002004))}, {"a   =1.2.3", list(of("a", 1002003, 1002004))}, {"a >=1.0.0 <2.0.0", list(of("a", 1000000, 2000000))},
		{"a ^1.2.0 <1.5.0 | =3.0.0", list(of("a", 1002000, 1005000, 3000000, 3000001))}, {"a  ^1.2.0   <1.5.0|=3.0.0  ", list(of("a", 1002000, 1005000, 3000000, 3000001))}, {"a =1.0.0 =2.0.0", list(of("a"))},
		{"b ^1.0.0; c", list(of("b", 1000000, 2000000), of("c", 0, 1000000000))}, {"b ^1.0.0;c", list(of("b", 1000000, 2000000), of("c", 0, 1000000000))}, {"b ^1.0.0   ;   c   ", list(of("b", 1000000, 2000000), of("c", 0, 1000000000))},
		{"a;b", named("a", "b")}, {"a ;b", named("a", "b")}, {"a; b", named("a", "b")}, {" a ; b ", named("a", "b")}, {"a;a-;a0;aa;α;β", named("a", "a-", "a0", "aa", "α", "β")}, {"a none;b none", list(of("a"), of("b"))},
		{"a;b;c;d;e;f", named("a", "b", "c", "d", "e", "f")}, {"abcdefghijkl;αβγδεζηθικλμ", named("abcdefghijkl", "αβγδεζηθικλμ")},
		{"a =0.0.1|=0.0.3|=0.0.5|=0.0.7|=0.0.9|=0.0.11; b", list(api.Need{Name: "a", In: manySpans(6)}, of("b", 0, 1000000000))},
	} {
		readAs(t, c.s, c.want)
	}
}

// P8.2: a piece without a name: the place behind it.
func TestReadOfPiecesWithoutNames(t *testing.T) {
	for _, c := range []struct {
		s  string
		at int
	}{
		{";", 0}, {" ;", 1}, {"   ;", 3}, {";;", 0}, {"; ", 0}, {";a", 0}, {"  ;a", 2}, {"a;", 2}, {"a; ", 3}, {"a;    ", 6}, {"a ;", 3}, {"a any;", 6}, {"a any;  ", 8}, {"a;;", 2}, {"a;;b", 2}, {"a; ;b", 3}, {"a ;  ; b", 5}, {"a;b;", 4}, {"a;b; ", 5}, {"a;b;;c", 4},
		{"α;", 3}, {"α; ", 4}, {"αβ ^1.0.0;  ;γ", 14},
	} {
		wrongAt(t, c.s, c.at, api.ErrForm)
	}
}

// P8.2: names that may not be, or do not rise: their places.
func TestReadOfWrongNames(t *testing.T) {
	for _, c := range []struct {
		s  string
		at int
	}{
		{"A", 0}, {" A", 1}, {"   A any", 3}, {"1a", 0}, {"-a", 0}, {"a_b", 0}, {"a.b any", 0}, {"=1.0.0", 0}, {"  =1.0.0", 2}, {"a=1.0.0", 0}, {"a|b", 0}, {"|", 0}, {"a,b", 0}, {"abcdefghijklm", 0}, {"αβγδεζηθικλμν", 0}, {"Ω", 0}, {"é", 0}, {"\xff", 0}, {"a\xff", 0}, {"  \xce", 2}, {"a\xce;b", 0},
		{"\t", 0}, {" \t", 1}, {"\ta", 0}, {"a\t", 0}, {"a\tany", 0}, {"a\n", 0}, {"a\u00a0any", 0}, {"\u00a0a", 0}, {"\u2003", 0}, {"a\x00", 0}, {"\x00", 0},
		{"a;B", 2}, {"a; B", 3}, {"a any;   B any", 9}, {"a;b;1", 4}, {"α; Ω", 4}, {"a;\xff", 2}, {"a; abcdefghijklm", 3}, {"a;|", 2}, {"a;b=1.0.0", 2}, {"a;b:", 2}, {"a;\tb", 2},
		{"a;a", 2}, {"a; a", 3}, {"a any;   a", 9}, {"b;a", 2}, {"c; b", 3}, {"aa;a", 3}, {"a0;a-", 3}, {"α;z", 3}, {"β;α", 3}, {"a;b;b", 4}, {"a;c;b", 4}, {"a;c;a", 4}, {"b;c;a", 4}, {"b;a;c", 2}, {"αβ ^1.0.0;  αα", 14},
	} {
		wrongAt(t, c.s, c.at, api.ErrForm)
	}
}

// P8.2: what is wrong of a rule, and its place in the whole text.
func TestReadOfWrongRules(t *testing.T) {
	for _, c := range []struct {
		s  string
		at int
	}{
		{"a x", 2}, {"a   x", 4}, {"  a   x", 6}, {"a =1.0.0 x", 9}, {"a =1.0.0  |", 11}, {"a |", 2}, {"a  |", 3}, {"a  |any", 3}, {"a any|", 6}, {"a any|  ", 8}, {"a any any", 2}, {"a none =1.0.0", 2}, {"a =1.0.0 any", 9}, {"a any || any", 7}, {"a any | x", 8},
		{"a =1.0", 2}, {"a = 1.0.0", 2}, {"a =01.0.0", 2}, {"a b", 2}, {"a b any", 2}, {"a any b", 2}, {"a \t", 2}, {"a any\t", 2}, {"a any \t", 2}, {"a \xff", 2}, {"a ω", 2}, {"α ω", 3}, {"a any,b", 2}, {"a a", 2},
		{"a;b x", 4}, {"a; b x", 5}, {"a; b   x", 7}, {"a any;  b =1.0.0 |", 18}, {"α; β | ω", 7}, {"α any; β =1.0.0 | ω", 20}, {"a;b;c |", 6}, {"a;b any|;c", 8}, {"a any|;b", 6}, {"a any|  ;b", 8}, {"a any | ;", 8}, {"a |;b", 2},
	} {
		wrongAt(t, c.s, c.at, api.ErrForm)
	}
	// Of too many spans, and of a rule that is too long, Read (7) tells the place 0: there, what stands behind the name begins.
	seven := "=0.0.1|=0.0.3|=0.0.5|=0.0.7|=0.0.9|=0.0.11|=0.0.13"
	long := "any" + strings.Repeat(" ", 397)
	for _, c := range []struct {
		s  string
		at int
	}{
		{"a " + seven, 1}, {"  a  " + seven, 3}, {"a; b " + seven, 4}, {"αβ; γ  " + seven + " ; δ", 8},
		{"a " + long, 1}, {"  a " + long, 3}, {"a; b " + long, 4}, {"αβ;γ " + long + ";δ", 7}, {"a " + strings.Repeat("x", 400), 1}, {"a " + strings.Repeat(" ", 400) + "x", 1},
	} {
		wrongAt(t, c.s, c.at, api.ErrLong)
	}
	// What stands behind the name has MaxText bytes of its own.
	readAs(t, "a any"+strings.Repeat(" ", 396), named("a"))
	readAs(t, "abcdefghijkl"+strings.Repeat(" ", 397)+"any", named("abcdefghijkl"))
	wrongAt(t, "a "+strings.Repeat("x", 399), 2, api.ErrForm)
	// Nothing but blanks is as any, however many.
	readAs(t, "a"+strings.Repeat(" ", 1000)+";"+strings.Repeat(" ", 500)+"b"+strings.Repeat(" ", 400), named("a", "b"))
}

// P8.2: of some things that are wrong the first one is told, piece by piece.
func TestReadTellsTheFirst(t *testing.T) {
	for _, c := range []struct {
		s  string
		at int
	}{
		{"A x", 0}, {"a x; B", 2}, {"B; a x", 0}, {"; A", 0}, {"a x;", 2}, {"a;;A", 2}, {"b;a x", 2}, {"a any|;;", 6}, {"a x y; a", 2}, {"a; a x; b y", 3}, {"a;B;;", 2}, {"a; b x; b", 5}, {"1 x;2 y", 0},
	} {
		wrongAt(t, c.s, c.at, api.ErrForm)
	}
	seven := "=0.0.1|=0.0.3|=0.0.5|=0.0.7|=0.0.9|=0.0.11|=0.0.13"
	wrongAt(t, "a "+seven+"; b x", 1, api.ErrLong)
	wrongAt(t, "a "+seven+";", 1, api.ErrLong)
	wrongAt(t, "a x; b "+seven, 2, api.ErrForm)
	wrongAt(t, "a; a "+seven, 3, api.ErrForm)
	wrongAt(t, "A "+seven, 0, api.ErrForm)
	wrongAt(t, "a "+seven+"|", 2+len(seven)+1, api.ErrForm)
}

// P8.2: at most MaxNeeds, told behind all else that is wrong.
func TestReadOfManyNeeds(t *testing.T) {
	wrongAt(t, "a;b;c;d;e;f;g", 0, api.ErrLong)
	wrongAt(t, "a any; b none; c ^1.0.0; d; e; f; g; h", 0, api.ErrLong)
	wrongAt(t, "a;b;c;d;e;f;", 12, api.ErrForm)
	wrongAt(t, "a;b;c;d;e;f;g;", 14, api.ErrForm)
	wrongAt(t, "a;b;c;d;e;f;g;h;g", 16, api.ErrForm)
	wrongAt(t, "a;b;c;d;e;f;f", 12, api.ErrForm)
	wrongAt(t, "a;b;c;d;e;f;g x", 14, api.ErrForm)
	wrongAt(t, "a;b;c;d;e;f;g;h =0.0.1|=0.0.3|=0.0.5|=0.0.7|=0.0.9|=0.0.11|=0.0.13", 15, api.ErrLong)
	var names []string
	for first := 'a'; first <= 'z'; first++ {
		for second := 'a'; second <= 'z'; second++ {
			names = append(names, string(first)+string(second))
		}
	}
	wrongAt(t, strings.Join(names[:600], ";"), 0, api.ErrLong)
	wrongAt(t, strings.Join(names[:600], ";")+";", 1800, api.ErrForm)
}

// P8.2: MaxText bytes, and more of them, ahead of all else that is wrong.
func TestReadOfLongTexts(t *testing.T) {
	fill := func(s string, n int) string { return s + strings.Repeat(" ", n-len(s)) }
	readAs(t, strings.Repeat(" ", 2000), nil)
	readAs(t, fill("a", 2000), named("a"))
	readAs(t, fill("a;b", 2000), named("a", "b"))
	readAs(t, strings.Repeat(" ", 1999)+"a", named("a"))
	wrongAt(t, fill("a;", 2000), 2000, api.ErrForm)
	wrongAt(t, strings.Repeat(" ", 1999)+"A", 1999, api.ErrForm)
	wrongAt(t, strings.Repeat(" ", 1999)+";", 1999, api.ErrForm)
	wrongAt(t, strings.Repeat(";", 2000), 0, api.ErrForm)
	wrongAt(t, strings.Repeat("x", 2000), 0, api.ErrForm)
	// in bytes, not in runes
	wrongAt(t, strings.Repeat("α", 1000), 0, api.ErrForm)
	wrongAt(t, " "+strings.Repeat("α", 1000), 0, api.ErrLong)
	for _, s := range []string{"", "a", "a;b", ";", "A", "a x", "a;", "a;a", "a;b;c;d;e;f;g"} {
		for _, n := range []int{2001, 2002, 5000, 1 << 16, 1 << 20} {
			wrongAt(t, fill(s, n), 0, api.ErrLong)
			wrongAt(t, strings.Repeat(" ", n-len(s))+s, 0, api.ErrLong)
		}
	}
}

// form is what a piece is cut into: blanks, its name, and what stands behind it.
var form = regexp.MustCompile(`(?s)^( *)([^ ]*)(.*)$`)

// nameForm is a name that may be.
var nameForm = regexp.MustCompile(`^[a-zα-ω][a-zα-ω0-9-]{0,11}$`)

// second reads needs a second way.
func second(s string) ([]api.Need, int, api.Errno) {
	if strings.Count(s, " ") == len(s) {
		return nil, 0, api.OK
	}
	var l []api.Need
	begin, last := 0, ""
	for _, p := range strings.Split(s, ";") {
		m := form.FindStringSubmatchIndex(p)
		name, behind := p[m[4]:m[5]], p[m[6]:m[7]]
		switch {
		case name == "":
			return nil, begin + len(p), api.ErrForm
		case !nameForm.MatchString(name) || len(l) > 0 && strings.Compare(name, last) <= 0:
			return nil, begin + m[4], api.ErrForm
		}
		n := api.Need{Name: name, In: all}
		if strings.Count(behind, " ") < len(behind) {
			in, at, e := rule.Read(behind)
			if e != api.OK {
				return nil, begin + m[6] + at, e
			}
			n.In = in
		}
		l, last = append(l, n), name
		begin += len(p) + 1
	}
	if len(l) > api.MaxNeeds {
		return nil, 0, api.ErrLong
	}
	return l, 0, api.OK
}

// P8.2: all texts of up to 6 parts out of 10, put one behind another, held against a second way to read.
func TestReadOfAllShortTexts(t *testing.T) {
	parts := []string{" ", ";", "a", "b", "α", "-", "any", "=1.0.0", "|", " none; "}
	read := map[int]int{}
	var all func(s string, n int)
	all = func(s string, n int) {
		want, place, f := second(s)
		got, at, e := need.Read(s)
		if !alike(got, want) || at != place || e != f {
			t.Fatalf("Read(%q) = %v, %d, %d, not %v, %d, %d", s, got, at, e, want, place, f)
		}
		if e == api.OK {
			read[len(got)]++
			if !need.Check(got) {
				t.Fatalf("Read(%q) = %v, which may not be", s, got)
			}
			if again, _, _ := need.Read(need.Show(got)); !alike(again, got) {
				t.Fatalf("Read(%q) = %v, which is shown as %q", s, got, need.Show(got))
			}
		}
		if n > 0 {
			for _, p := range parts {
				all(s+p, n-1)
			}
		}
	}
	all("", 6)
	for n := range 4 {
		if read[n] == 0 {
			t.Errorf("none of the texts is one of %d needs", n)
		}
	}
}

// P8.2: each byte there is, in and beside a name, a rule, and the blanks between.
func TestReadOfEachByte(t *testing.T) {
	for c := range 256 {
		for _, ahead := range []string{"", "a", "a ", "a any", "a any ", "a;", "a;b", "a;b ^1.0.0 | "} {
			for _, behind := range []string{"", "z", " any", ";z", "; z any"} {
				s := ahead + string([]byte{byte(c)}) + behind
				want, place, f := second(s)
				if got, at, e := need.Read(s); !alike(got, want) || at != place || e != f {
					t.Errorf("Read(%q) = %v, %d, %d, not %v, %d, %d", s, got, at, e, want, place, f)
				}
			}
		}
	}
}
