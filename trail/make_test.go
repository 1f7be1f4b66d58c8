package trail_test

import (
	"fmt"
	"slices"
	"strings"
	"testing"

	"comprador/api"
	"comprador/trail"
)

// top is behind the last place of a version.
const top = 1000000000

// spans are those that begin and end at numbers, two by two.
func spans(ends ...int) []api.Span {
	var l []api.Span
	for i := 0; i < len(ends); i += 2 {
		l = append(l, api.Span{Lo: ends[i], Hi: ends[i+1]})
	}
	return l
}

// in is the term that a package is chosen in the versions between some ends.
func in(name string, ends ...int) api.Term {
	return api.Term{Name: name, In: spans(ends...)}
}

// on is the term that a package is chosen in one version.
func on(name string, place int) api.Term { return in(name, place, place+1) }

// or is a term, or that its package is not chosen.
func or(t api.Term) api.Term {
	t.None = true
	return t
}

// full is the term of a name that has all states.
func full(name string) api.Term { return or(in(name, 0, top)) }

// list is a list of terms.
func list(l ...api.Term) []api.Term { return l }

// picks are a name and a version, and so on.
func picks(l ...any) []api.Pick {
	var some []api.Pick
	for i := 0; i < len(l); i += 2 {
		some = append(some, api.Pick{Name: l[i].(string), Ver: l[i+1].(int)})
	}
	return some
}

// many are n spans of one version each, with one version ahead of each.
func many(n int) []api.Span {
	var l []api.Span
	for i := range n {
		l = append(l, api.Span{Lo: 2*i + 1, Hi: 2*i + 2})
	}
	return l
}

// letters are n names that may be, and rise, of four letters each.
func letters(n int) []string {
	var l []string
	for i := range n {
		l = append(l, string([]byte{byte('a' + i/17576%26), byte('a' + i/676%26), byte('a' + i/26%26), byte('a' + i%26)}))
	}
	return l
}

// goodNames are names that may be, by their order.
var goodNames = []string{"a", "a-", "a-1", "a0", "aa", "abcdefghijkl", "absent", "aα", "b", "z", "z9", "α", "α-1", "αa", "αβγδεζηθικλμ", "β", "ω"}

// badNames are names that may not be.
var badNames = []string{
	"", " ", "A", "1", "-", "1a", "-a", "a b", " a", "a ", "a_", "a\x00", "\x00", "Ω", "é", "\xce", "a\xce", "\xff", "a\xff",
	"abcdefghijklm", "αβγδεζηθικλμν", strings.Repeat("a", 25), strings.Repeat("ω", 13), strings.Repeat("a", 9000),
}

// badSets are lists that are no sets.
var badSets = [][]api.Span{
	spans(5, 5), spans(0, 0), spans(top, top), spans(9, 5), spans(-1, 5), spans(-5, -1), spans(0, top+1), spans(top, top+1), spans(-1<<63, 1<<63-1), spans(1<<63-1, -1<<63),
	spans(1, 5, 5, 9), spans(1, 5, 4, 9), spans(5, 9, 1, 3), spans(1, 5, 1, 5), spans(1, 5, 7, 7), spans(1, 5, 9, 7), spans(0, 5, 5, top), spans(0, top, 0, top), append(many(7), api.Span{}), make([]api.Span, 9),
}

// alike tells whether terms are alike, without the package that tells it; an empty list must be none.
func alike(a, b api.Term) bool {
	return a.Name == b.Name && a.None == b.None && slices.Equal(a.In, b.In) && (a.In == nil) == (len(b.In) == 0)
}

// brief is what is printed of something, which may be long.
func brief(x any) string {
	return fmt.Sprintf("%.300s", fmt.Sprint(x))
}

// does fails, if a call tells another error than it should.
func does(t *testing.T, call string, got, want api.Errno) {
	t.Helper()
	if got != want {
		t.Fatalf("%s = %d, not %d", call, got, want)
	}
}

// knows fails, if what is known of a term's name is not that term.
func knows(t *testing.T, call string, got, want api.Term) {
	t.Helper()
	if !alike(got, want) {
		t.Fatalf("%s = %s, not %s", call, brief(got), brief(want))
	}
}

// has fails, if a trail has not just some entries, or its level is another one.
func has(t *testing.T, tr *trail.Trail, level int, want ...trail.Entry) {
	t.Helper()
	if tr.Len() != len(want) || tr.Level() != level {
		t.Fatalf("there are %d entries, and the level %d, not %d and %d", tr.Len(), tr.Level(), len(want), level)
	}
	for i, e := range want {
		got, ok := tr.At(i)
		if !ok || !alike(got.Term, e.Term) || got.Level != e.Level || got.Cause != e.Cause {
			t.Fatalf("the entry %d is %s, %v, not %s", i, brief(got), ok, brief(e))
		}
	}
	for _, i := range []int{-1 << 63, -1, len(want), len(want) + 1, 1<<63 - 1} {
		if got, ok := tr.At(i); ok || got.Level != 0 || got.Cause != 0 || got.Term.Name != "" || got.Term.In != nil || got.Term.None {
			t.Fatalf("the entry %d is %s, %v", i, brief(got), ok)
		}
	}
}

// entry is an entry.
func entry(x api.Term, level, cause int) trail.Entry {
	return trail.Entry{Term: x, Level: level, Cause: cause}
}

// drawer draws numbers from 0 on, below n: the same ones for each seed.
func drawer(seed uint64) func(n int) int {
	return func(n int) int {
		seed = seed*6364136223846793005 + 1442695040888963407
		return int(seed>>33) % n
	}
}
