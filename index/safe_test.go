package index_test

import (
	"slices"
	"strings"
	"testing"
	"unsafe"

	"comprador/api"
	"comprador/index"
)

const behind = "what lies behind"

// spoil writes into all memory of a list of bytes.
func spoil(b []byte) {
	for i := range b[:cap(b)] {
		b[:cap(b)][i] ^= 255
	}
}

// spoilManifest writes into all memory of a manifest.
func spoilManifest(m api.Manifest) {
	for i, r := range m.Releases[:cap(m.Releases)] {
		for j, n := range r.Needs[:cap(r.Needs)] {
			for k := range n.In[:cap(n.In)] {
				n.In[:cap(n.In)][k] = api.Span{Lo: -77, Hi: -77}
			}
			r.Needs[:cap(r.Needs)][j].Name = "spoilt"
		}
		m.Releases[:cap(m.Releases)][i].Ver = -77
	}
}

// all are the entries of the first n of the rising names, and what is known of them: some are broken.
func all(n int) ([]api.Entry, map[string]api.Manifest) {
	var l []api.Entry
	want := map[string]api.Manifest{}
	for i, m := range manifests(n) {
		body := bytesOf(m)
		want[m.Name] = m
		if i%5 == 3 {
			body, want[m.Name] = "\x80"+body, api.Manifest{}
		}
		l = append(l, entry(m.Name, body))
	}
	return l, want
}

// 0.5, 0.8: what is given is not changed, nor read or written behind its lengths.
func TestGivenListsStay(t *testing.T) {
	for n := range len(rising()) + 1 {
		was, want := all(n)
		var l []api.Entry
		for _, e := range was {
			l = append(l, api.Entry{Name: e.Name, Body: append(slices.Clone(e.Body), behind...)[:len(e.Body)]})
		}
		more := entries("zzz", bytesOf(bare("zzz", 77)), "A", "\x80")
		l = append(l, more...)[:n]
		has(t, index.Of(l), want)
		x := index.New()
		for _, e := range l {
			if got := x.Put(e.Name, e.Body); got != api.OK {
				t.Fatalf("Put(%q) = %d", e.Name, got)
			}
			x.Put(e.Name, e.Body)
		}
		has(t, x, want)
		for i, e := range append(was, more...) {
			got := l[:n+2][i]
			if got.Name != e.Name || string(got.Body) != string(e.Body) {
				t.Fatalf("the entry %d became %q", i, got)
			}
			if i < n && string(got.Body[:len(e.Body)+len(behind)]) != string(e.Body)+behind {
				t.Fatalf("the body of %q became %q", e.Name, got.Body)
			}
		}
	}
}

// P13.1, 0.5: what is known stays, when what was put becomes another thing.
func TestWhatIsKnownStays(t *testing.T) {
	l, want := all(12)
	x, y := index.Of(l), index.New()
	for _, e := range l {
		b := slices.Clone(e.Body)
		y.Put(e.Name, b)
		spoil(b)
	}
	for i := range l {
		spoil(l[i].Body)
		l[i] = entry("spoilt", "spoilt")
	}
	has(t, x, want)
	has(t, y, want)
}

// P13.2, 0.5: what is told is new memory, each time; clones, too, tell new memory.
func TestAnswersAreNew(t *testing.T) {
	l, want := all(len(rising()))
	x := index.Of(l)
	y := x.Clone()
	for _, z := range []*index.Index{x, y, y.Clone()} {
		for _, name := range rising() {
			m, ok := z.Get(name)
			other, _ := z.Get(name)
			spoilManifest(m)
			if right := want[name]; ok && !alike(other, right) {
				t.Fatalf("two manifests of %q share memory", name)
			}
		}
		names, others := z.Names(), z.Names()
		for i := range names[:cap(names)] {
			names[:cap(names)][i] = "spoilt"
		}
		if !slices.Equal(others, rising()) {
			t.Fatalf("two lists of names share memory: %q", others)
		}
		has(t, x, want)
		has(t, y, want)
	}
}

// P13.2, 0.5: what was told stays, when more is put.
func TestAnswersAreKept(t *testing.T) {
	x := index.New()
	var told []api.Manifest
	var names [][]string
	l := manifests(len(rising()))
	for _, m := range l {
		x.Put(m.Name, []byte(bytesOf(m)))
		got, _ := x.Get(m.Name)
		told = append(told, got)
		names = append(names, x.Names())
	}
	for i, m := range l {
		if !alike(told[i], m) || !slices.Equal(names[i], rising()[:i+1]) {
			t.Errorf("what was told became %v, %q", told[i], names[i])
		}
	}
}

// 0.5: no two lists of one manifest share memory.
func TestListsOfOneManifest(t *testing.T) {
	x := index.Of(entries("a", bytesOf(fullest("a"))))
	for i := range 8 {
		for j := range 6 {
			m, _ := x.Get("a")
			in := m.Releases[i].Needs[j].In
			for k := range in[:cap(in)] {
				in[:cap(in)][k] = api.Span{Lo: -77, Hi: -77}
			}
			want := fullest("a")
			want.Releases[i].Needs[j].In = in
			if !alike(m, want) {
				t.Fatalf("by the set %d of the release %d another one became another one", j, i)
			}
		}
		m, _ := x.Get("a")
		needs := m.Releases[i].Needs
		for k := range needs[:cap(needs)] {
			needs[:cap(needs)][k] = of("spoilt")
		}
		want := fullest("a")
		want.Releases[i].Needs = needs
		if !alike(m, want) {
			t.Fatalf("by the needs of the release %d those of another one became others", i)
		}
	}
}

// within tells whether a text is in the memory of another one.
func within(s, in string) bool {
	at := uintptr(unsafe.Pointer(unsafe.StringData(s)))
	from := uintptr(unsafe.Pointer(unsafe.StringData(in)))
	return at >= from && at < from+uintptr(len(in))
}

// 0.5: texts, too, are new: a name that is put is not kept, and names that are told share none.
func TestTextsAreNew(t *testing.T) {
	long := strings.Repeat("abc", 3)
	if !within(long[1:4], long) {
		t.Fatal("what is given does not share the text")
	}
	x := index.New()
	x.Put(long[:4], []byte(bytesOf(bare("abca", 5))))
	x.Put(long[1:5], nil)
	y := index.Of([]api.Entry{{Name: long[2:6]}})
	var texts []string
	for _, z := range []*index.Index{x, y, x.Clone(), nil} {
		texts = append(texts, z.Names()...)
		for i := range 3 {
			m, _ := z.Get(long[i : i+4])
			texts = append(texts, m.Name)
		}
	}
	for i, s := range texts {
		if within(s, long) {
			t.Errorf("%q is in the memory of what was given", s)
		}
		for _, other := range texts[:i] {
			if within(s, other) {
				t.Errorf("two texts %q share memory", s)
			}
		}
	}
	if want := strings.Fields("abca bcab abca bcab cabc cabc abca bcab cabc abca bcab abca bcab cabc abca bcab cabc"); !slices.Equal(texts, want) {
		t.Errorf("the texts are %q", texts)
	}
}

// 0.8: empty lists are none.
func TestOfNoneIsNil(t *testing.T) {
	for _, x := range []*index.Index{index.New(), index.Of(nil), index.New().Clone(), {}, nil} {
		if l := x.Names(); l != nil {
			t.Errorf("the names are %#v", l)
		}
		if m, ok := x.Get("a"); m.Releases != nil || ok {
			t.Errorf("a is %#v", m)
		}
	}
	x := index.Of(entries("a", bytesOf(bare("a")), "b", bytesOf(bare("b", 5)), "c", bytesOf(pack("c", rel(5, of("d"))))))
	a, _ := x.Get("a")
	b, _ := x.Get("b")
	c, _ := x.Get("c")
	if a.Releases != nil || b.Releases[0].Needs != nil || c.Releases[0].Needs[0].In != nil {
		t.Errorf("an empty list is not nil: %#v, %#v, %#v", a, b, c)
	}
}

// 0.1: an index that was not made by New knows nothing, and goes on like one that was.
func TestZeroIndex(t *testing.T) {
	var x index.Index
	has(t, &x, nil)
	has(t, x.Clone(), nil)
	puts(t, &x, "A", "", api.ErrArg)
	puts(t, &x, "a", "\x01a\x01\x05\x00", api.OK)
	puts(t, &x, "a", "", api.ErrThere)
	puts(t, &x, "b", "", api.OK)
	has(t, &x, map[string]api.Manifest{"a": bare("a", 5), "b": {}})
	y := new(index.Index).Clone()
	puts(t, y, "b", "\x01b\x00", api.OK)
	has(t, y, knows(bare("b")))
}

// 0.1: no call panics, or goes on for ever, at any index, name and bytes.
func TestAnyArguments(t *testing.T) {
	full, _ := all(len(rising()))
	names := slices.Concat(rising(), noNames(), []string{strings.Repeat("a", 1<<18), strings.Repeat("\xff", 1<<18)})
	bodies := [][]byte{nil, {}, {0}, {255}, make([]byte, 8192), make([]byte, 8193), make([]byte, 1<<18), []byte(strings.Repeat("\x01a\x00", 1<<16))}
	for _, x := range []*index.Index{nil, {}, index.New(), index.Of(full), index.Of(full).Clone()} {
		for _, name := range names {
			x.Has(name)
			x.Get(name)
			for _, b := range bodies {
				x.Put(name, b)
			}
			x.Put(name, []byte(bytesOf(bare(name, 5))))
			x.Has(name)
			x.Get(name)
		}
		x.Names()
		x.Len()
		x.Clone()
	}
	var l []api.Entry
	for _, name := range names {
		for _, b := range bodies {
			l = append(l, api.Entry{Name: name, Body: b})
		}
	}
	index.Of(l)
	index.Of(slices.Repeat(full, 100))
}
