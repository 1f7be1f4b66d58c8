package depot_test

import (
	"math"
	"slices"
	"strings"
	"testing"
	"unsafe"

	"comprador/api"
	"comprador/depot"
)

const behind = "what lies behind"

// stretch is a depot whose lists' memory goes on behind their lengths: by what would break it, and what it would have.
func stretch(l []api.Entry) []api.Entry {
	var d []api.Entry
	for _, e := range l {
		d = append(d, api.Entry{Name: e.Name, Body: append(slices.Clone(e.Body), behind...)[:len(e.Body)]})
	}
	return append(d, entriesBehind()...)[:len(l)]
}

// entriesBehind is what lies behind a list's length.
func entriesBehind() []api.Entry {
	return entries("zzz", bytesOf(bare("zzz", 77)), "A", "\x80")
}

// sameEntries tells whether entries are alike.
func sameEntries(a, b []api.Entry) bool {
	return slices.EqualFunc(a, b, func(x, y api.Entry) bool { return x.Name == y.Name && string(x.Body) == string(y.Body) })
}

// stays fails, if a stretched depot, or what lies behind its lists, is another one than it was.
func stays(t *testing.T, d, was []api.Entry) {
	t.Helper()
	if long := d[:len(d)+2]; !sameEntries(long, append(slices.Clone(was), entriesBehind()...)) {
		t.Fatalf("%q became %q", was, long)
	}
	for i, e := range d {
		if long := string(e.Body[:len(e.Body)+len(behind)]); long != string(was[i].Body)+behind {
			t.Fatalf("the body of %q became %q", e.Name, long)
		}
	}
}

// depots are depots that may be.
func depots() [][]api.Entry {
	l := [][]api.Entry{nil, entries("a", ""), entries("a", "", "b", "\x01b\x00", "c", "\x01a\x00"), entries("a", strings.Repeat("\xff", 8192))}
	for _, n := range []int{1, 2, 7, 23, 24} {
		d, _ := depot.Of(manifests(n))
		l = append(l, first(n), d)
	}
	return l
}

// 0.5, 0.8: what is given is not changed, nor read or written behind its lengths.
func TestGivenListsStay(t *testing.T) {
	for _, was := range depots() {
		d := stretch(was)
		if !depot.Check(d) {
			t.Fatalf("%.80q may not be", d)
		}
		if got, want := depot.Broken(d), depot.Broken(was); !slices.Equal(got, want) {
			t.Fatalf("broken are %q, not %q", got, want)
		}
		for _, name := range append(rising(), "zzz") {
			if got, want := string(depot.Body(d, name)), string(depot.Body(was, name)); got != want {
				t.Fatalf("the body of %q is %q, not %q", name, got, want)
			}
			got, ok := depot.Manifest(d, name)
			if want, also := depot.Manifest(was, name); !alike(got, want) || ok != also {
				t.Fatalf("the manifest of %q is %v, not %v", name, got, want)
			}
		}
		stays(t, d, was)
	}
}

// 0.5, 0.8: the same, of manifests.
func TestGivenManifestsStay(t *testing.T) {
	for n := range 25 {
		was := manifests(n)
		l := append(manifests(n), bare("zzz", 77), bare("A", -1))[:n]
		for i := range l {
			l[i].Releases = append(slices.Clone(l[i].Releases), rel(5), rel(-5))[:len(l[i].Releases)]
		}
		d, ok := depot.Of(l)
		isDepot(t, d, ok, was)
		if !slices.EqualFunc(l[:n+2], append(was, bare("zzz", 77), bare("A", -1)), alike) {
			t.Fatalf("the manifests became %v", l[:n+2])
		}
		for _, m := range l {
			if size := len(m.Releases); !alike(pack("a", m.Releases[size:size+2]...), bare("a", 5, -5)) {
				t.Fatalf("behind %v something was written", m)
			}
		}
	}
}

// spoil writes into all memory of a list of bytes.
func spoil(b []byte) {
	for i := range b[:cap(b)] {
		b[:cap(b)][i] ^= 255
	}
}

// spoilManifest writes into all memory of a manifest.
func spoilManifest(m api.Manifest) {
	for i, r := range m.Releases[:cap(m.Releases)] {
		for j, n := range r.Needs[:cap(r.Needs)] {
			for k := range n.In[:cap(n.In)] {
				n.In[:cap(n.In)][k] = api.Span{Lo: -77, Hi: -77}
			}
			r.Needs[:cap(r.Needs)][j].Name = "spoilt"
		}
		m.Releases[:cap(m.Releases)][i].Ver = -77
	}
}

// 0.5: what is told is new memory, each time.
func TestAnswersAreNew(t *testing.T) {
	for _, was := range depots() {
		d := clone(was)
		for _, name := range rising() {
			body, again := depot.Body(d, name), depot.Body(d, name)
			want := string(depot.Body(was, name))
			spoil(body)
			if string(again) != want || string(depot.Body(d, name)) != want {
				t.Fatalf("two bodies of %q share memory", name)
			}
			m, _ := depot.Manifest(d, name)
			other, _ := depot.Manifest(d, name)
			spoilManifest(m)
			if right, _ := depot.Manifest(was, name); !alike(other, right) {
				t.Fatalf("two manifests of %q share memory", name)
			}
		}
		l := depot.Broken(d)
		want := slices.Clone(l)
		for i := range l[:cap(l)] {
			l[:cap(l)][i] = "spoilt"
		}
		if !slices.Equal(depot.Broken(d), want) || !sameEntries(d, was) {
			t.Fatalf("what is told of %.80q shares memory with it", was)
		}
	}
}

// 0.5: what was told stays, when the depot becomes another one.
func TestAnswersAreKept(t *testing.T) {
	for _, was := range depots() {
		for _, name := range rising() {
			d := clone(was)
			body := depot.Body(d, name)
			m, ok := depot.Manifest(d, name)
			names := depot.Broken(d)
			for i := range d {
				spoil(d[i].Body)
				d[i] = entry("spoilt", "spoilt")
			}
			want, also := depot.Manifest(was, name)
			if string(body) != string(depot.Body(was, name)) || !alike(m, want) || ok != also || !slices.Equal(names, depot.Broken(was)) {
				t.Fatalf("of %q what was told became %.60q, %v, %q", name, body, m, names)
			}
		}
	}
}

// 0.5: no two entries of a depot Of manifests share memory, nor do two such depots, or one and the manifests.
func TestOfIsNew(t *testing.T) {
	l := manifests(24)
	d, _ := depot.Of(l)
	other, _ := depot.Of(l)
	for i := range d {
		spoil(d[i].Body)
		for j := i + 1; j < len(d); j++ {
			if string(d[j].Body) != bytesOf(l[j]) {
				t.Fatalf("the entries %d and %d share memory", i, j)
			}
		}
	}
	for i := range d[:cap(d)] {
		d[:cap(d)][i] = entry("spoilt", "")
	}
	for _, m := range l {
		spoilManifest(m)
	}
	isDepot(t, other, true, manifests(24))
}

// 0.5: texts, too, are new.
func TestTextsAreNew(t *testing.T) {
	long := strings.Repeat("abc", 3)
	shared := func(s string) bool {
		at := uintptr(unsafe.Pointer(unsafe.StringData(s)))
		from := uintptr(unsafe.Pointer(unsafe.StringData(long)))
		return at >= from && at < from+uintptr(len(long))
	}
	if !shared(long[1:4]) {
		t.Fatal("what is given does not share the text")
	}
	d, _ := depot.Of([]api.Manifest{bare(long[:4], 5), bare(long[1:5], 6)})
	texts := []string{d[0].Name, d[1].Name}
	for _, given := range [][]api.Entry{nil, {{Name: long[:4], Body: []byte(bytesOf(bare("abca", 5)))}}, {{Name: long[:4]}}} {
		m, _ := depot.Manifest(given, long[:4])
		texts = append(texts, m.Name)
		texts = append(texts, depot.Broken(given)...)
	}
	for _, s := range texts {
		if shared(s) {
			t.Errorf("%q is in the memory of what was given", s)
		}
	}
	if !slices.Equal(texts, []string{"abca", "bcab", "abca", "abca", "abca", "abca"}) {
		t.Errorf("the texts are %q", texts)
	}
}

// 0.8: an empty body is none.
func TestOfNoBodyIsNil(t *testing.T) {
	for _, body := range [][]byte{nil, {}, []byte(behind)[:0]} {
		if got := depot.Body([]api.Entry{{Name: "a", Body: body}}, "a"); got != nil {
			t.Errorf("the body is %#v", got)
		}
	}
}

// 0.1: no call panics, or goes on for ever, at any list and any name.
func TestAnyDepots(t *testing.T) {
	lists := append(depots(), []api.Entry{{}}, slices.Repeat(first(24), 3), slices.Repeat(entries("a", "\x01a\x00"), 1000), first(len(rising())))
	back := first(24)
	slices.Reverse(back)
	lists = append(lists, back, entries("a", strings.Repeat("\x01a\x00", 1<<18)), entries(strings.Repeat("a", 1<<18), "\x01a\x00"))
	for _, name := range noNames() {
		lists = append(lists, entries(name, bytesOf(bare(name))), entries("b", "\x01b\x00", name, "", "a", "\xff"))
	}
	for _, l := range lists {
		depot.Check(l)
		depot.Broken(l)
		for _, name := range slices.Concat(rising(), noNames()) {
			depot.Body(l, name)
			depot.Manifest(l, name)
		}
	}
	ms := append(manifests(24), mayNot("a")...)
	for _, n := range []int{math.MinInt, -1, 1000000001, math.MaxInt} {
		ms = append(ms, bare("a", n, n), pack("a", rel(n, of("a", n, -n), of("b", 0, n))))
	}
	for _, m := range ms {
		depot.Of([]api.Manifest{m})
		depot.Of([]api.Manifest{m, m})
		depot.Of(slices.Repeat([]api.Manifest{m}, 1000))
	}
}
