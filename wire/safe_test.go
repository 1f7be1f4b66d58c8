package wire_test

import (
	"bytes"
	"slices"
	"strings"
	"testing"
	"unsafe"

	"comprador/api"
	"comprador/wire"
)

// What lies behind lists' lengths.
func behindSpans() []api.Span       { return spans(100, 200, -5, 1<<40) }
func behindNeeds() []api.Need       { return []api.Need{of("zz", 1, 2), of("", -5, 1<<40)} }
func behindReleases() []api.Release { return []api.Release{rel(999999999, of("zz", 1, 2)), rel(-5)} }

// stretch is a manifest whose lists' memory goes on behind their lengths.
func stretch(m api.Manifest) api.Manifest {
	c := api.Manifest{Name: m.Name}
	for _, r := range m.Releases {
		var needs []api.Need
		for _, n := range r.Needs {
			needs = append(needs, api.Need{Name: n.Name, In: append(slices.Clone(n.In), behindSpans()...)[:len(n.In)]})
		}
		needs = append(needs, behindNeeds()...)[:len(r.Needs)]
		c.Releases = append(c.Releases, api.Release{Ver: r.Ver, Needs: needs})
	}
	c.Releases = append(c.Releases, behindReleases()...)[:len(m.Releases)]
	return c
}

// stays fails, if a stretched manifest, or what lies behind its lists, is another one than it was.
func stays(t *testing.T, m, was api.Manifest) {
	t.Helper()
	long := api.Manifest{Name: m.Name, Releases: m.Releases[:len(m.Releases)+2]}
	want := api.Manifest{Name: was.Name, Releases: append(slices.Clone(was.Releases), behindReleases()...)}
	if !alike(long, want) {
		t.Fatalf("%v became %v", want, long)
	}
	for i, r := range m.Releases {
		needs := append(slices.Clone(was.Releases[i].Needs), behindNeeds()...)
		if !alikeNeeds(r.Needs[:len(r.Needs)+2], needs) {
			t.Fatalf("of %v the needs became %v", was, r.Needs[:len(r.Needs)+2])
		}
		for j, n := range r.Needs {
			if in := append(slices.Clone(needs[j].In), behindSpans()...); !slices.Equal(n.In[:len(n.In)+2], in) {
				t.Fatalf("of %v a set became %v", was, n.In[:len(n.In)+2])
			}
		}
	}
}

// P10.1, 0.5, 0.8: what is given to Put is not changed, nor read or written behind its lists' lengths.
func TestPutLeavesTheManifest(t *testing.T) {
	for _, was := range append(mayBe(), mayNot()...) {
		m := stretch(was)
		if got, want := string(wire.Put(m)), string(wire.Put(was)); got != want {
			t.Fatalf("Put(%v) = %q, not %q", was, got, want)
		}
		stays(t, m, was)
	}
}

// 0.5: what is put is new memory, each time.
func TestPutIsNew(t *testing.T) {
	for _, m := range mayBe() {
		first, second := wire.Put(m), wire.Put(m)
		want := string(second)
		for i := range first[:cap(first)] {
			first[:cap(first)][i] ^= 255
		}
		if string(second) != want || string(wire.Put(m)) != want {
			t.Fatalf("two calls of Put(%v) share memory", m)
		}
	}
}

// P10.2, 0.5, 0.8: what is given to Read is not changed, nor read or written behind its length, nor kept.
func TestReadLeavesTheBytes(t *testing.T) {
	for _, m := range mayBe() {
		b := bytesOf(m)
		for _, size := range []int{len(b), len(b) - 1, len(b) / 2, 0} {
			whole := []byte(b + b + "\x00")
			given := whole[:size]
			got, e := wire.Read(given)
			if string(whole) != b+b+"\x00" {
				t.Fatalf("Read(%q) made %q of what was given", b[:size], whole)
			}
			for i := range whole {
				whole[i] ^= 255
			}
			want, also := readOther(b[:size])
			if !alike(got, want) || e != also {
				t.Fatalf("Read(%q) = %v, %d, not %v, %d", b[:size], got, e, want, also)
			}
		}
		// what stands behind the bytes would make them right
		if _, e := wire.Read([]byte(b)[:len(b)-1]); e != api.ErrShort {
			t.Fatalf("Read(%q) tells %d", b[:len(b)-1], e)
		}
	}
}

// spoil writes into all memory of a list of spans.
func spoil(l []api.Span) {
	for i := range l[:cap(l)] {
		l[:cap(l)][i] = api.Span{Lo: -77, Hi: -77}
	}
}

// 0.5: what is read is new memory, and no two of its lists share any.
func TestReadIsNew(t *testing.T) {
	for _, m := range mayBe() {
		b := wire.Put(m)
		got, _ := wire.Read(b)
		again, _ := wire.Read(b)
		for i, r := range got.Releases {
			for j, n := range r.Needs {
				spoil(n.In)
				for k, other := range got.Releases {
					for l := range other.Needs {
						if (k > i || k == i && l > j) && !slices.Equal(other.Needs[l].In, m.Releases[k].Needs[l].In) {
							t.Fatalf("of %v two sets share memory", m)
						}
					}
				}
			}
			for j := range r.Needs[:cap(r.Needs)] {
				r.Needs[:cap(r.Needs)][j] = of("spoilt", -77, -77)
			}
			for k := i + 1; k < len(got.Releases); k++ {
				for l, n := range got.Releases[k].Needs {
					if n.Name != m.Releases[k].Needs[l].Name {
						t.Fatalf("of %v two lists of needs share memory", m)
					}
				}
			}
		}
		for i := range got.Releases[:cap(got.Releases)] {
			got.Releases[:cap(got.Releases)][i] = rel(-77)
		}
		if !alike(again, m) || !bytes.Equal(b, wire.Put(m)) {
			t.Fatalf("two calls of Read(%q) share memory", b)
		}
	}
}

// 0.5: texts, too, are new.
func TestReadTextsAreNew(t *testing.T) {
	b := wire.Put(pack("abcdefg", rel(5, named("bcdefgh", "cdefghi")...)))
	got, _ := wire.Read(b)
	from := uintptr(unsafe.Pointer(unsafe.SliceData(b)))
	texts := []string{got.Name}
	for _, n := range got.Releases[0].Needs {
		texts = append(texts, n.Name)
	}
	for _, s := range texts {
		if at := uintptr(unsafe.Pointer(unsafe.StringData(s))); at >= from && at < from+uintptr(len(b)) {
			t.Errorf("%q is in the memory of what was given", s)
		}
	}
	if !slices.Equal(texts, []string{"abcdefg", "bcdefgh", "cdefghi"}) {
		t.Errorf("the texts are %q", texts)
	}
}

// 0.8: an empty list is none.
func TestReadOfNoneIsNil(t *testing.T) {
	for _, m := range mayBe() {
		got, _ := wire.Read(wire.Put(m))
		if len(got.Releases) == 0 && got.Releases != nil {
			t.Fatalf("of %v the releases are not nil", m)
		}
		for _, r := range got.Releases {
			if len(r.Needs) == 0 && r.Needs != nil {
				t.Fatalf("of %v the needs are not nil", m)
			}
			for _, n := range r.Needs {
				if len(n.In) == 0 && n.In != nil {
					t.Fatalf("of %v a set is not nil", m)
				}
			}
		}
	}
}

// 0.1: no call panics, or goes on for ever, at any bytes, or none.
func TestAnyBytes(t *testing.T) {
	tells(t, "", api.ErrShort)
	if got, e := wire.Read(nil); !alike(got, api.Manifest{}) || e != api.ErrShort {
		t.Errorf("Read(nil) = %v, %d", got, e)
	}
	for i := range 256 {
		for j := range 256 {
			s := string([]byte{byte(i), byte(j)})
			for _, ahead := range []string{"", "\x01a\x01", "\x01a\x01\x05\x01\x01b\x01"} {
				reads(t, ahead+s)
				reads(t, ahead+strings.Repeat(s, 40))
			}
		}
		reads(t, strings.Repeat(string([]byte{byte(i)}), 8192))
		reads(t, strings.Repeat(string([]byte{byte(i)}), 1<<20))
	}
}
