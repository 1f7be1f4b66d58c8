package index_test

import (
	"maps"
	"slices"
	"strings"
	"testing"

	"comprador/api"
	"comprador/depot"
	"comprador/index"
)

// isBroken fails, if a body does not break a name.
func isBroken(t *testing.T, name, body string) {
	t.Helper()
	x := index.New()
	puts(t, x, name, body, api.OK)
	has(t, x, map[string]api.Manifest{name: {}})
	has(t, index.Of(entries(name, body)), map[string]api.Manifest{name: {}})
}

// P13.1, P13.2: bodies that are a name's manifest.
func TestGetOfManifests(t *testing.T) {
	for _, m := range append(manifests(len(rising())), bare("a", 0), bare("a", 999999999), fullest("abcdefghijkl"), pack("a", rel(5, of("a"))), pack("a", rel(0, of("b", 0, 1), of("c")))) {
		x := index.Of([]api.Entry{entry(m.Name, bytesOf(m))})
		has(t, x, knows(m))
	}
}

// P13.1, P13.2: bodies that are no manifest's.
func TestGetOfBrokenNames(t *testing.T) {
	for _, name := range []string{"a", "c", "α", "abcdefghijkl"} {
		for _, body := range []string{
			"", "\x00", "\x80", "\xff", name, text(name), "\x00\x00", "no manifest", text(name) + "\x00\x00", text(name) + "\x80", text(name) + "\x81", text(name) + "\x09", text(name) + "\x01", text(name) + "\x01\x05",
			text(name) + "\x01\x80\x05\x00", text(name) + "\x01\x05\x07", text(name) + "\x01\x05\x01\x01b\x07", text(name) + "\x01\x83\xdc\xeb\x94\x01\x00", text(name) + "\x00" + text(name) + "\x00",
			strings.Repeat("\x00", 8192), strings.Repeat("\xff", 8192), text(name) + "\x00" + strings.Repeat("\x00", 8000),
		} {
			isBroken(t, name, body)
		}
		for _, m := range mayNot(name) {
			isBroken(t, name, bytesOf(m))
		}
		for _, other := range noNames() {
			if len(other) < 8000 {
				isBroken(t, name, bytesOf(bare(other)))
			}
		}
		for _, m := range manifests(len(rising())) {
			if m.Name != name {
				isBroken(t, name, bytesOf(m))
			}
		}
	}
	x := index.New()
	if e := x.Put("a", nil); e != api.OK {
		t.Errorf("Put of no bytes: %d", e)
	}
	has(t, x, map[string]api.Manifest{"a": {}})
}

// P13.1: two names, each of which has the other one's manifest.
func TestOfEachOther(t *testing.T) {
	x := index.Of(entries("a", bytesOf(bare("b", 5)), "b", bytesOf(bare("a", 6))))
	has(t, x, map[string]api.Manifest{"a": {}, "b": {}})
}

// P13.1: bodies that are cut, and of which a byte is another one, that is gone, or that came, against a depot.
func TestOfSpoiltBodies(t *testing.T) {
	told := [2]int{}
	tells := func(name, body string) {
		want, whole := depot.Manifest(entries(name, body), name)
		x := index.New()
		puts(t, x, name, body, api.OK)
		got, ok := x.Get(name)
		if ok != whole || !alike(got, want) || !x.Has(name) || x.Len() != 1 {
			t.Fatalf("of %q as %q there is %v, %v, not %v, %v", name, body, got, ok, want, whole)
		}
		if ok {
			told[1]++
		} else {
			told[0]++
		}
	}
	for _, m := range []api.Manifest{bare("a"), bare("ab", 5, 300), pack("a", rel(5, of("b", 2, 4), of("c"))), pack("a-1", rel(1), rel(2, of("a", 0, 1000000000)))} {
		b := bytesOf(m)
		tells(m.Name, b)
		for at := range len(b) {
			tells(m.Name, b[:at])
			tells(m.Name, b[at:]+b[:at])
			tells(m.Name, b[:at]+b[at+1:])
			for i := range 256 {
				one := string([]byte{byte(i)})
				tells(m.Name, b[:at]+one+b[at+1:])
				tells(m.Name, b[:at]+one+b[at:])
			}
		}
	}
	if told[0] < 10000 || told[1] < 300 {
		t.Errorf("there are %d that are broken, and %d that are not", told[0], told[1])
	}
}

// P13.2: names that are not known, beside those that are.
func TestOfNamesThatAreNotKnown(t *testing.T) {
	all := rising()
	for i, name := range all {
		for _, body := range []string{bytesOf(bare(name, 5)), ""} {
			x := index.New()
			puts(t, x, name, body, api.OK)
			for j, other := range all {
				if m, ok := x.Get(other); x.Has(other) != (i == j) || ok != (i == j && body != "") || m.Name != other || (m.Releases == nil) == ok {
					t.Errorf("of %q: Has(%q) = %v, Get = %v, %v", name, other, x.Has(other), m, ok)
				}
			}
		}
	}
}

// P13.2: Names rise, however they were put: each order of some names.
func TestNamesRise(t *testing.T) {
	names := []string{"a", "a-", "aa", "z", "α"}
	var each func(order []string)
	each = func(order []string) {
		x := index.New()
		for i, name := range order {
			puts(t, x, name, []string{"", bytesOf(bare(name))}[i%2], api.OK)
		}
		if got := x.Names(); !slices.Equal(got, slices.Sorted(slices.Values(order))) || x.Len() != len(order) {
			t.Errorf("of %q the names are %q, %d", order, got, x.Len())
		}
		for _, name := range names {
			if !slices.Contains(order, name) {
				each(append(slices.Clone(order), name))
			}
		}
	}
	each(nil)
}

// P13.2: each subset of some names is known, and of these each subset is broken.
func TestOfEachSubset(t *testing.T) {
	names := []string{"a", "a-", "b", "z", "α"}
	for set := range 1 << len(names) {
		for bad := range set + 1 {
			if bad&^set != 0 {
				continue
			}
			var l []api.Entry
			want := map[string]api.Manifest{}
			for i, name := range names {
				if set>>i&1 == 0 {
					continue
				}
				want[name] = bare(name, set, set+i+1)
				body := bytesOf(want[name])
				if bad>>i&1 == 1 {
					body, want[name] = body[1:], api.Manifest{}
				}
				l = append(l, entry(name, body))
			}
			has(t, index.Of(l), want)
		}
	}
}

// P13.2: a clone knows the same, and what is put into one of both the other one does not know.
func TestClone(t *testing.T) {
	has(t, index.New().Clone(), nil)
	for n := range 8 {
		var l []api.Entry
		for _, m := range manifests(n) {
			l = append(l, entry(m.Name, bytesOf(m)))
		}
		l = append(l, entry("zz", ""))
		want := knows(manifests(n)...)
		want["zz"] = api.Manifest{}
		x := index.Of(l)
		y := x.Clone()
		z := y.Clone()
		if x == y || y == z || x == z {
			t.Fatal("a clone is the index itself")
		}
		puts(t, x, "x", "\x01x\x01\x05\x00", api.OK)
		puts(t, y, "x", "", api.OK)
		puts(t, y, "y", "\x01y\x00", api.OK)
		puts(t, y, "zz", "\x02zz\x00", api.ErrThere)
		has(t, z, want)
		want["x"] = bare("x", 5)
		has(t, x, want)
		has(t, x.Clone().Clone(), want)
		want["x"], want["y"] = api.Manifest{}, bare("y")
		has(t, y, want)
	}
}

// P13.2: of a clone of an index that knows nothing, too, both go on by themselves.
func TestCloneOfNothing(t *testing.T) {
	for _, x := range []*index.Index{index.New(), index.Of(nil), {}} {
		y := x.Clone()
		puts(t, x, "a", "\x01a\x00", api.OK)
		has(t, y, nil)
		puts(t, y, "b", "", api.OK)
		has(t, x, knows(bare("a")))
		has(t, y, map[string]api.Manifest{"b": {}})
	}
}

// P13.2: of a nil index.
func TestOfNil(t *testing.T) {
	var x *index.Index
	has(t, x, nil)
	if x.Names() != nil || x.Len() != 0 || x.Clone() != nil {
		t.Errorf("of nil: %q, %d, %v", x.Names(), x.Len(), x.Clone())
	}
}

// P13.2, by another way: a course of puts and clones, drawn by plain numbers, of some indexes at once.
func TestCourses(t *testing.T) {
	state := uint32(1)
	draw := func(n int) int {
		state = state*1664525 + 1013904223
		return int(state>>8) % n
	}
	all := manifests(9)
	indexes := []*index.Index{index.New(), index.New(), index.New()}
	models := []map[string]api.Manifest{{}, {}, {}}
	for range 3000 {
		i := draw(3)
		switch draw(12) {
		case 0:
			j := draw(3)
			indexes[j], models[j] = indexes[i].Clone(), maps.Clone(models[i])
		case 1:
			indexes[i], models[i] = index.New(), map[string]api.Manifest{}
		default:
			m := all[draw(9)]
			body, is := bytesOf(m), m
			if draw(3) == 0 {
				body, is = body[:draw(len(body))], api.Manifest{}
			}
			want := api.ErrThere
			if _, ok := models[i][m.Name]; !ok {
				models[i][m.Name], want = is, api.OK
			}
			puts(t, indexes[i], m.Name, body, want)
		}
		for j, x := range indexes {
			has(t, x, models[j])
		}
	}
}
