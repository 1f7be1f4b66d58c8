package proof_test

import (
	"math"
	"regexp"
	"slices"
	"strconv"
	"strings"
	"testing"

	"comprador/api"
)

// top is behind the last place of a version, most is how many steps a proof may have.
const (
	top  = 1000000000
	most = 1 << 20
)

func asked(name string) api.Step    { return api.Step{Kind: 1, Name: name} }
func released(name string) api.Step { return api.Step{Kind: 2, Name: name} }

func needed(name string, ver int, to string) api.Step {
	return api.Step{Kind: 3, Name: name, Ver: ver, To: to}
}

func joined(name string, a, b int) api.Step {
	return api.Step{Kind: 4, Name: name, A: a, B: b}
}

// toStep is the step of a text: "asked a", "released a", "needed a 5 b", "joined a 0 1".
func toStep(s string) api.Step {
	words := strings.Fields(s)
	number := func(i int) int {
		n, err := strconv.Atoi(words[i])
		if err != nil {
			panic(err)
		}
		return n
	}
	switch words[0] {
	case "asked":
		return asked(words[1])
	case "released":
		return released(words[1])
	case "needed":
		return needed(words[1], number(2), words[3])
	case "joined":
		return joined(words[1], number(2), number(3))
	}
	panic(s)
}

// toProof are the steps of a text, with semicolons between.
func toProof(s string) []api.Step {
	var l []api.Step
	for _, piece := range strings.Split(s, ";") {
		l = append(l, toStep(piece))
	}
	return l
}

// alike tells whether lists are alike, field by field.
func alike(a, b []api.Step) bool {
	if len(a) != len(b) {
		return false
	}
	for i, s := range a {
		if s.Kind != b[i].Kind || s.Name != b[i].Name || s.Ver != b[i].Ver || s.To != b[i].To || s.A != b[i].A || s.B != b[i].B {
			return false
		}
	}
	return true
}

// inForm are the names that may be.
var inForm = regexp.MustCompile(`^[a-zα-ω][a-zα-ω0-9-]{0,11}$`)

// mayBeStep tells, in another way, whether a step may stand behind so many others.
func mayBeStep(s api.Step, ahead int) bool {
	if !inForm.MatchString(s.Name) {
		return false
	}
	leaf := s.A == 0 && s.B == 0
	bare := s.Ver == 0 && s.To == ""
	switch s.Kind {
	case 1, 2:
		return leaf && bare
	case 3:
		return leaf && 0 <= s.Ver && s.Ver <= top-1 && inForm.MatchString(s.To)
	case 4:
		return bare && min(s.A, s.B) >= 0 && max(s.A, s.B) <= ahead-1
	}
	return false
}

// num is a number's bytes, put without the package that puts them.
func num(n int) string {
	s := string([]byte{byte(n % 128)})
	for n /= 128; n > 0; n /= 128 {
		s = string([]byte{byte(128 + n%128)}) + s
	}
	return s
}

// text is a text's bytes.
func text(s string) string {
	return num(len(s)) + s
}

// bytesOf is a proof's bytes, whether it may be or not, as long as no number is below 0.
func bytesOf(l []api.Step) string {
	var b strings.Builder
	b.WriteString(num(len(l)))
	for _, s := range l {
		b.WriteString(num(s.Kind) + text(s.Name))
		if s.Kind == 3 {
			b.WriteString(num(s.Ver) + text(s.To))
		}
		if s.Kind == 4 {
			b.WriteString(num(s.A) + num(s.B))
		}
	}
	return b.String()
}

// Names that may be, and such as may not.
func names() []string {
	return []string{"a", "z", "a0", "a-", "a-1", "α", "ω", "aα", "α-1", "abcdefghijkl", "αβγδεζηθικλμ", "ω23456789012", strings.Repeat("ω", 12)}
}

func noNames() []string {
	return []string{
		"", " ", "A", "1", "-", "1a", "-a", "a b", "a_", "a ", " a", "aA", "a\x00", "\x00", "Ω", "é", "\xce", "a\xce", "\xff", "a\xff", "\ufffd",
		"abcdefghijklm", "αβγδεζηθικλμν", strings.Repeat("a", 24), strings.Repeat("a", 25), strings.Repeat("ω", 13), strings.Repeat("a", 9000), strings.Repeat("\xff", 1<<16),
	}
}

// chain is a proof of so many steps, each of which uses both ahead of it.
func chain(size int) []api.Step {
	l := []api.Step{asked("a"), released("b")}
	for i := len(l); i < size; i++ {
		l = append(l, joined("c", i-1, i-2))
	}
	return l[:size]
}

// flat is a proof of so many steps, that use none.
func flat(size int) []api.Step {
	return slices.Repeat([]api.Step{released("b")}, size)
}

// mayBe are proofs that may be.
func mayBe() [][]api.Step {
	var l [][]api.Step
	for _, name := range names() {
		for _, s := range []api.Step{asked(name), released(name), needed(name, 5, "b"), needed("b", 5, name), needed(name, 0, name)} {
			l = append(l, []api.Step{s}, []api.Step{asked("x"), s}, []api.Step{s, s, joined(name, 0, 1)}, []api.Step{s, joined(name, 0, 0), released("y")})
		}
	}
	for _, ver := range []int{0, 1, 127, 128, 16383, 16384, 2097151, 2097152, 268435455, 268435456, top - 2, top - 1} {
		l = append(l, []api.Step{needed("a", ver, "b")}, []api.Step{released("a"), needed("α", ver, "a"), joined("a", 1, 0)})
	}
	for _, s := range []string{
		"asked a; released b; released a; joined a 0 2",
		"asked a; released a; joined a 0 1",
		"asked a; joined a 0 0; joined a 1 1; joined a 2 2",
		"asked a; joined a 0 0; joined a 1 0; joined a 0 1; joined b 3 0",
		"asked a; asked b; released a; needed a 1 b; joined a 0 2; joined b 4 3; joined c 1 5; joined d 6 6",
	} {
		l = append(l, toProof(s))
	}
	for _, size := range []int{2, 3, 10, 126, 127, 128, 129, 130, 300} {
		l = append(l, chain(size), flat(size))
	}
	return l
}

// mayNot are lists that are no proofs that may be.
func mayNot() [][]api.Step {
	l := [][]api.Step{nil, {}, {{}}, make([]api.Step, 3), make([]api.Step, 1000)}
	var steps []api.Step
	for _, name := range noNames() {
		steps = append(steps, asked(name), released(name), needed(name, 1, "a"), needed("a", 1, name), joined(name, 0, 0))
	}
	for _, kind := range []int{math.MinInt, -1, 0, 5, 6, 1 << 40, math.MaxInt} {
		steps = append(steps, api.Step{Kind: kind, Name: "a"}, api.Step{Kind: kind, Name: "a", To: "b"})
	}
	for _, kind := range []int{1, 2, 4} {
		steps = append(steps, api.Step{Kind: kind, Name: "a", Ver: 1}, api.Step{Kind: kind, Name: "a", Ver: -1}, api.Step{Kind: kind, Name: "a", To: "b"}, api.Step{Kind: kind, Name: "a", To: "\x00"}, api.Step{Kind: kind, Name: "a", Ver: 1, To: "b"})
	}
	for _, kind := range []int{1, 2, 3} {
		for _, n := range []int{math.MinInt, -1, 1, 2, math.MaxInt} {
			steps = append(steps, api.Step{Kind: kind, Name: "a", A: n}, api.Step{Kind: kind, Name: "a", B: n})
			steps = append(steps, api.Step{Kind: kind, Name: "a", To: "b", A: n}, api.Step{Kind: kind, Name: "a", To: "b", B: n})
		}
	}
	for _, ver := range []int{math.MinInt, -1, top, top + 1, 1 << 40, math.MaxInt} {
		steps = append(steps, needed("a", ver, "b"))
	}
	for _, n := range []int{math.MinInt, -2, -1, 2, 3, 4, most, 1 << 40, math.MaxInt} {
		steps = append(steps, joined("a", n, 0), joined("a", 0, n), joined("a", n, n), joined("a", n, 1), joined("a", 1, n))
	}
	for _, s := range steps {
		l = append(l, []api.Step{s}, []api.Step{asked("a"), released("a"), s})
		l = append(l, []api.Step{s, asked("a")}, []api.Step{released("a"), asked("b"), s, joined("a", 0, 1)}, []api.Step{s, released("a"), joined("a", 0, 1)})
	}
	return append(l, toProof("joined a 0 0"), toProof("asked a; joined a 0 1"), toProof("asked a; joined a 1 0"), toProof("asked a; joined a 2 0; asked b"))
}

// small tells each proof of up to so many steps over a few leaves: the last one of each joins any two steps ahead of it, or is a leaf. What was told is changed behind that.
func small(size int, each func(l []api.Step)) {
	leaves := []api.Step{asked("a"), released("b"), needed("c", 7, "a")}
	var on func(l []api.Step)
	on = func(l []api.Step) {
		if len(l) > 0 {
			each(l)
		}
		if len(l) == size {
			return
		}
		for _, s := range leaves {
			on(append(l, s))
		}
		for a := range l {
			for b := range l {
				on(append(l, joined("d", a, b)))
			}
		}
	}
	on(nil)
}

// drawer draws numbers below some other one, the same in each run.
func drawer(seed uint64) func(n int) int {
	return func(n int) int {
		seed = seed*6364136223846793005 + 1442695040888963407
		return int(seed>>33) % n
	}
}

// drawn is a proof of so many steps that is drawn: of ten of them some are Joined.
func drawn(draw func(n int) int, size, joins int) []api.Step {
	var l []api.Step
	word := func() string { return string(rune('a' + draw(26))) }
	for i := range size {
		switch {
		case i > 0 && draw(10) < joins:
			// one that stands near, so that much is used
			l = append(l, joined(word(), max(i-1-draw(3), 0), draw(i)))
		case draw(3) == 0:
			l = append(l, asked(word()))
		case draw(2) == 0:
			l = append(l, released(word()))
		default:
			l = append(l, needed(word(), draw(top), word()))
		}
	}
	return l
}

// brief is a list, cut where it is long.
func brief(l []api.Step) string {
	var b strings.Builder
	for i, s := range l {
		if i == 12 {
			return b.String() + ".. " + strconv.Itoa(len(l))
		}
		name, to := s.Name, s.To
		b.WriteString("{" + strconv.Itoa(s.Kind) + " " + strconv.Quote(name[:min(len(name), 30)]) + " " + strconv.Itoa(s.Ver) + " " + strconv.Quote(to[:min(len(to), 30)]) + " " + strconv.Itoa(s.A) + " " + strconv.Itoa(s.B) + "} ")
	}
	return b.String()
}

// The limits, and the kinds' numbers, that the chapter and DOC.md name.
func TestLimits(t *testing.T) {
	if got := []int{api.MaxProof, api.MaxBytes, api.MaxName, api.Top, api.Asked, api.Released, api.Needed, api.Joined}; !slices.Equal(got, []int{most, 24, 12, top, 1, 2, 3, 4}) {
		t.Errorf("the limits are %v", got)
	}
}
