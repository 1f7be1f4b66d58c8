package wire_test

import (
	"math"
	"slices"
	"strings"
	"testing"

	"comprador/api"
	"comprador/mani"
	"comprador/wire"
)

// spans are those that begin and end at numbers, two by two.
func spans(ends ...int) []api.Span {
	var l []api.Span
	for i := 0; i < len(ends); i += 2 {
		l = append(l, api.Span{Lo: ends[i], Hi: ends[i+1]})
	}
	return l
}

// of is a need.
func of(name string, ends ...int) api.Need {
	return api.Need{Name: name, In: spans(ends...)}
}

// named are needs of some names, each in any version.
func named(names ...string) []api.Need {
	var l []api.Need
	for _, name := range names {
		l = append(l, of(name, 0, 1000000000))
	}
	return l
}

// rel is a release.
func rel(ver int, needs ...api.Need) api.Release {
	return api.Release{Ver: ver, Needs: needs}
}

// pack is a manifest.
func pack(name string, l ...api.Release) api.Manifest {
	return api.Manifest{Name: name, Releases: l}
}

// bare is a manifest whose releases need nothing.
func bare(name string, vers ...int) api.Manifest {
	m := api.Manifest{Name: name}
	for _, v := range vers {
		m.Releases = append(m.Releases, rel(v))
	}
	return m
}

// alikeNeeds tells whether needs are alike.
func alikeNeeds(a, b []api.Need) bool {
	return slices.EqualFunc(a, b, func(x, y api.Need) bool { return x.Name == y.Name && slices.Equal(x.In, y.In) })
}

// alike tells whether manifests are alike.
func alike(a, b api.Manifest) bool {
	return a.Name == b.Name && slices.EqualFunc(a.Releases, b.Releases, func(x, y api.Release) bool {
		return x.Ver == y.Ver && alikeNeeds(x.Needs, y.Needs)
	})
}

// num is a number's bytes, put without the package that puts them.
func num(n int) string {
	s := string([]byte{byte(n % 128)})
	for n /= 128; n > 0; n /= 128 {
		s = string([]byte{byte(128 + n%128)}) + s
	}
	return s
}

// nums are some numbers' bytes.
func nums(l ...int) string {
	s := ""
	for _, n := range l {
		s += num(n)
	}
	return s
}

// text is a text's bytes.
func text(s string) string {
	return num(len(s)) + s
}

// bytesOf is a manifest's bytes, whether it may be or not, as long as no number is below 0.
func bytesOf(m api.Manifest) string {
	s := text(m.Name) + num(len(m.Releases))
	for _, r := range m.Releases {
		s += nums(r.Ver, len(r.Needs))
		for _, n := range r.Needs {
			s += text(n.Name) + num(len(n.In))
			for _, in := range n.In {
				s += nums(in.Lo, in.Hi-in.Lo)
			}
		}
	}
	return s
}

// The longest names there may be: of each of these there are 24 bytes.
func longName(i int) string {
	return strings.Repeat("ω", 11) + string(rune(945+i))
}

// greatest is the manifest that has as many bytes as one may have.
func greatest() api.Manifest {
	const five, four = 1 << 28, 1 << 21 // the least numbers of five bytes, and of four
	var in []api.Span
	for at, i := five, 0; i < 6; i++ {
		wide := four
		if i < 2 {
			wide = five
		}
		in = append(in, api.Span{Lo: at, Hi: at + wide})
		at += wide + 1
	}
	m := pack(longName(0))
	for i := range 8 {
		r := rel(999999992 + i)
		for j := range 6 {
			r.Needs = append(r.Needs, api.Need{Name: longName(j), In: slices.Clone(in)})
		}
		m.Releases = append(m.Releases, r)
	}
	return m
}

// mayBe are manifests that may be.
func mayBe() []api.Manifest {
	six := spans(0, 1, 2, 3, 127, 128, 129, 256, 16384, 32768, 999999998, 999999999)
	wide := rel(5)
	for _, name := range []string{"b", "b-1", "bb", "z", "α", "ω"} {
		wide.Needs = append(wide.Needs, api.Need{Name: name, In: six})
	}
	l := []api.Manifest{
		bare("a"), {Name: "a", Releases: []api.Release{}}, bare("z"), bare("α"), bare("a-1"), bare("abcdefghijkl"), bare("αβγδεζηθικλμ"),
		pack("a", api.Release{Ver: 5, Needs: []api.Need{}}), pack("a", rel(5, api.Need{Name: "b", In: []api.Span{}})), pack("a", rel(5, of("b"))),
		pack("a", rel(5, named("a")...)), pack("a", rel(0, of("b", 5, 9))), pack("a", rel(0, named("b")...), rel(1, named("b")...)), pack("a", rel(0, named("b", "c")...), rel(1)), pack("a", rel(0), rel(1, named("b", "c")...)),
		pack("a", rel(5, named("b", "c", "d", "e", "f", "g")...)), pack("a", wide), pack("a", rel(4), wide, rel(6, of("α", 0, 5))), greatest(),
		bare("a", 0, 1, 2, 3, 4, 5, 6, 7), bare("a", 0, 127, 128, 16383, 16384, 2097151, 2097152, 268435455), bare("a", 268435456, 999999999), bare("b", 1000000, 2000000),
	}
	edges := []int{0, 1, 2, 127, 128, 129, 16383, 16384, 2097151, 2097152, 268435455, 268435456, 999999998, 999999999, 1000000000}
	for _, lo := range edges[:len(edges)-1] {
		l = append(l, bare("a", lo))
		for _, hi := range edges {
			if lo < hi {
				l = append(l, pack("a", rel(7, of("b", lo, hi))))
			}
			if lo+1 < hi && hi < 1000000000 {
				l = append(l, pack("a", rel(7, of("b", lo, lo+1, hi, 1000000000))))
			}
		}
	}
	return l
}

// mayNot are manifests that may not be.
func mayNot() []api.Manifest {
	l := []api.Manifest{
		{}, bare("", 5), bare("A"), bare("1a"), bare("-a"), bare("a b"), bare("\xff"), bare("a\xff"), bare("Ω"), bare("abcdefghijklm"), bare("αβγδεζηθικλμν"), bare(strings.Repeat("a", 24)), bare(strings.Repeat("a", 9000)),
		bare("a", -1), bare("a", 1000000000), bare("a", 1000000001), bare("a", math.MinInt), bare("a", math.MaxInt), bare("a", 5, 5), bare("a", 6, 5), bare("a", 1, 3, 2), bare("a", 5, 1000000000),
		bare("a", 0, 1, 2, 3, 4, 5, 6, 7, 8), bare("a", make([]int, 5000)...),
	}
	for _, needs := range [][]api.Need{
		named(""), named("B"), named("1"), named("b", "b"), named("c", "b"), named("b", "C"), named("b", "c", "d", "e", "f", "g", "h"), named("abcdefghijklm"), named(strings.Repeat("ω", 13)),
		{of("b", 0, 0)}, {of("b", 5, 4)}, {of("b", -1, 5)}, {of("b", 0, 1000000001)}, {of("b", math.MinInt, math.MaxInt)}, {of("b", 1000000000, 1000000000)}, {of("b", 1, 5, 5, 9)}, {of("b", 5, 9, 1, 3)}, {of("b", 1, 5, 2, 9)},
		{of("b", 0, 1, 2, 3, 4, 5, 6, 7, 8, 9, 10, 11, 12, 13)}, {of("b"), of("c", 3, 3)},
	} {
		l = append(l, pack("a", rel(5, needs...)), pack("a", rel(5, needs...), rel(6)), pack("a", rel(4), rel(5, needs...)))
	}
	return l
}

// P10.1, the chapter's example beside others, by hand.
func TestPut(t *testing.T) {
	for _, c := range []struct {
		m    api.Manifest
		want string
	}{
		{bare("a"), "\x01a\x00"},
		{bare("α-1"), "\x04\xce\xb1-1\x00"},
		{bare("a", 0), "\x01a\x01\x00\x00"},
		{bare("a", 127, 128), "\x01a\x02\x7f\x00\x81\x00\x00"},
		{bare("a", 999999999), "\x01a\x01\x83\xdc\xeb\x93\x7f\x00"},
		{pack("a", rel(5, of("b"))), "\x01a\x01\x05\x01\x01b\x00"},
		{pack("a", rel(5, of("b", 0, 1))), "\x01a\x01\x05\x01\x01b\x01\x00\x01"},
		// how much Hi is above Lo, not Hi
		{pack("a", rel(5, of("b", 300, 310))), "\x01a\x01\x05\x01\x01b\x01\x82\x2c\x0a"},
		{pack("a", rel(5, of("b", 0, 1000000000))), "\x01a\x01\x05\x01\x01b\x01\x00\x83\xdc\xeb\x94\x00"},
		{pack("a", rel(5, of("b", 2, 4, 9, 10), of("cd", 7, 8))), "\x01a\x01\x05\x02\x01b\x02\x02\x02\x09\x01\x02cd\x01\x07\x01"},
		{pack("a", rel(1, of("b", 2, 4)), rel(2), rel(3, of("c"))), "\x01a\x03\x01\x01\x01b\x01\x02\x02\x02\x00\x03\x01\x01c\x00"},
	} {
		if got := string(wire.Put(c.m)); got != c.want {
			t.Errorf("Put(%v) = %q, not %q", c.m, got, c.want)
		}
	}
}

// P10.1: against a second way to put them.
func TestPutOfMany(t *testing.T) {
	for _, m := range mayBe() {
		if !mani.Check(m) {
			t.Errorf("%v may not be", m)
		}
		if got, want := string(wire.Put(m)), bytesOf(m); got != want {
			t.Errorf("Put(%v) = %q, not %q", m, got, want)
		}
	}
}

// P10.1
func TestPutOfSuchAsMayNotBe(t *testing.T) {
	for _, m := range mayNot() {
		if mani.Check(m) {
			t.Errorf("%v may be", m)
		}
		if got := wire.Put(m); got != nil {
			t.Errorf("Put(%v) = %q", m, got)
		}
	}
}

// P10.3: it is read as it was, has at most MaxBody bytes, and no two manifests have the same ones.
func TestPutIsRead(t *testing.T) {
	of := map[string]api.Manifest{}
	for _, m := range mayBe() {
		b := wire.Put(m)
		got, e := wire.Read(b)
		if !alike(got, m) || e != api.OK {
			t.Errorf("Read(Put(%v)) = %v, %d", m, got, e)
		}
		if len(b) == 0 || len(b) > api.MaxBody {
			t.Errorf("Put(%v) has %d bytes", m, len(b))
		}
		if as, is := of[string(b)]; is && !alike(as, m) {
			t.Errorf("Put(%v) is that of %v", m, as)
		}
		of[string(b)] = m
	}
	if len(of) < 100 {
		t.Errorf("there are %d manifests", len(of))
	}
}

// P10.3: the one that has the most bytes.
func TestPutOfTheGreatest(t *testing.T) {
	const need = 25 + 1 + 2*(5+5) + 4*(5+4)
	const want = 25 + 1 + 8*(5+1+6*need)
	m := greatest()
	b := wire.Put(m)
	if len(b) != want || want > api.MaxBody {
		t.Errorf("the greatest manifest has %d bytes, not %d", len(b), want)
	}
	if got, e := wire.Read(b); !alike(got, m) || e != api.OK {
		t.Errorf("it is read as %v, %d", got, e)
	}
}

// The limits that the chapter and DOC.md name.
func TestLimits(t *testing.T) {
	if got := []int{api.MaxBody, api.MaxBytes, api.MaxReleases, api.MaxNeeds, api.MaxSpans, api.Top}; !slices.Equal(got, []int{8192, 24, 8, 6, 6, 1000000000}) {
		t.Errorf("the limits are %v", got)
	}
}
