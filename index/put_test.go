package index_test

import (
	"slices"
	"strings"
	"testing"

	"comprador/api"
	"comprador/index"
)

// puts fails, if something else is told of what is put.
func puts(t *testing.T, x *index.Index, name, body string, want api.Errno) {
	t.Helper()
	if e := x.Put(name, []byte(body)); e != want {
		t.Fatalf("Put(%.40q, %.60q) = %d, not %d", name, body, e, want)
	}
}

// P13.1: the chapter's example.
func TestOfABrokenName(t *testing.T) {
	x := index.New()
	puts(t, x, "a", "no manifest", api.OK)
	if _, ok := x.Get("a"); ok || !x.Has("a") {
		t.Errorf("a is not broken, or not known: %v, %v", ok, x.Has("a"))
	}
	puts(t, x, "a", "no manifest", api.ErrThere)
	puts(t, x, "a", "\x01a\x00", api.ErrThere)
	has(t, x, map[string]api.Manifest{"a": {}})
}

// P13.1: an index that knows nothing, and others that do not know what one of them knows.
func TestNew(t *testing.T) {
	x, y := index.New(), index.New()
	has(t, x, nil)
	puts(t, x, "a", "\x01a\x00", api.OK)
	has(t, x, knows(bare("a")))
	has(t, y, nil)
	has(t, index.New(), nil)
	puts(t, y, "a", "\x01a\x01\x05\x00", api.OK)
	has(t, y, knows(bare("a", 5)))
	has(t, x, knows(bare("a")))
}

// P13.1, by hand.
func TestPut(t *testing.T) {
	x := index.New()
	puts(t, x, "b", "\x01b\x02\x05\x00\x82\x2c\x00", api.OK)
	puts(t, x, "α", "\x02\xce\xb1\x01\x01\x01\x01b\x01\x02\x02", api.OK)
	puts(t, x, "a", "\x01a\x01\x83\xdc\xeb\x93\x7f\x00", api.OK)
	puts(t, x, "c", "\x01b\x00", api.OK)
	puts(t, x, "d", "", api.OK)
	puts(t, x, "e", "\x01e\x00\x00", api.OK)
	want := knows(bare("a", 999999999), bare("b", 5, 300), pack("α", rel(1, of("b", 2, 4))))
	want["c"], want["d"], want["e"] = api.Manifest{}, api.Manifest{}, api.Manifest{}
	has(t, x, want)
	if l := x.Names(); !slices.Equal(l, []string{"a", "b", "c", "d", "e", "α"}) {
		t.Errorf("the names are %q", l)
	}
}

// P13.1: of a nil index, whatever is put.
func TestPutIntoNil(t *testing.T) {
	var x *index.Index
	for _, name := range slices.Concat(rising(), noNames()) {
		puts(t, x, name, bytesOf(bare(name)), api.ErrArg)
		puts(t, x, name, "", api.ErrArg)
	}
	puts(t, x, "a", strings.Repeat("\x00", 8193), api.ErrArg)
}

// P13.1: names that may not be, whatever the body is, and whatever is known.
func TestPutOfNamesThatMayNotBe(t *testing.T) {
	x, y := index.New(), index.New()
	puts(t, y, "a", "\x01a\x00", api.OK)
	puts(t, y, "b", "", api.OK)
	for _, name := range noNames() {
		for _, body := range []string{"", bytesOf(bare(name)), "\x01a\x00", "\xff", strings.Repeat("a", 8192), strings.Repeat("a", 8193)} {
			puts(t, x, name, body, api.ErrArg)
			puts(t, y, name, body, api.ErrArg)
		}
	}
	has(t, x, nil)
	has(t, y, map[string]api.Manifest{"a": bare("a"), "b": {}})
}

// P13.1: each name that may be may be put.
func TestPutOfNamesThatMayBe(t *testing.T) {
	for _, m := range manifests(len(rising())) {
		x := index.New()
		puts(t, x, m.Name, bytesOf(m), api.OK)
		has(t, x, knows(m))
		puts(t, x, m.Name, bytesOf(m), api.ErrThere)
		has(t, x, knows(m))
	}
}

// P13.1: bodies that are too long; ErrArg is told of a name that is known, too.
func TestPutOfLongBodies(t *testing.T) {
	for _, size := range []int{8190, 8191, 8192, 8193, 8194, 9000, 1 << 16} {
		for _, fill := range []string{"\x00", "a", "\xff"} {
			x := index.New()
			long := strings.Repeat(fill, size)
			begun := "\x01a\x00" + long[3:]
			if size > 8192 {
				puts(t, x, "a", long, api.ErrArg)
				puts(t, x, "a", begun, api.ErrArg)
				has(t, x, nil)
				puts(t, x, "a", "\x01a\x01\x05\x00", api.OK)
				puts(t, x, "a", long, api.ErrArg)
				puts(t, x, "a", begun, api.ErrArg)
				has(t, x, knows(bare("a", 5)))
				continue
			}
			puts(t, x, "a", long, api.OK)
			puts(t, x, "b", begun, api.OK)
			puts(t, x, "a", begun, api.ErrThere)
			has(t, x, map[string]api.Manifest{"a": {}, "b": {}})
		}
	}
}

// P13.1: an index may know more names than a depot may have.
func TestPutOfManyNames(t *testing.T) {
	x := index.New()
	want := map[string]api.Manifest{}
	for i := range 26 * 26 {
		name := string([]byte{'z' - byte(i%26), 'a' + byte(i/26)})
		if i%7 == 3 {
			want[name] = api.Manifest{}
			puts(t, x, name, "", api.OK)
		} else {
			want[name] = bare(name, i, i+1)
			puts(t, x, name, bytesOf(want[name]), api.OK)
		}
		if x.Len() != i+1 {
			t.Fatalf("behind %d names there are %d", i+1, x.Len())
		}
	}
	has(t, x, want)
}

// P13.3: what is put first is what is known, in each order of some bodies of one name.
func TestFirstOfOneName(t *testing.T) {
	bodies := []string{"\x01a\x00", "", "\x01a\x01\x05\x00", "\x01b\x00", "\x01a\x01\x06\x01\x01b\x00"}
	is := []api.Manifest{bare("a"), {}, bare("a", 5), {}, pack("a", rel(6, of("b")))}
	var each func(order []int)
	each = func(order []int) {
		if len(order) < len(bodies) {
			for i := range bodies {
				if !slices.Contains(order, i) {
					each(append(slices.Clone(order), i))
				}
			}
			return
		}
		x := index.New()
		for i, at := range order {
			want := api.ErrThere
			if i == 0 {
				want = api.OK
			}
			puts(t, x, "a", bodies[at], want)
			has(t, x, map[string]api.Manifest{"a": is[order[0]]})
		}
	}
	each(nil)
}

// P13.1, P13.3: all lists of some entries, up to four, by another way: put one by one, and Of them.
func TestOfAllLists(t *testing.T) {
	some := append(entries("a", "\x01a\x00", "a", "\x01a\x01\x05\x00", "a", "", "b", "\x01b\x01\x06\x00", "b", "\x01a\x00", "A", "\x01A\x00", "a", strings.Repeat("\x00", 8193)), api.Entry{})
	is := []api.Manifest{bare("a"), bare("a", 5), {}, bare("b", 6), {}}
	told := map[api.Errno]int{}
	var each func(order []int)
	each = func(order []int) {
		want := map[string]api.Manifest{}
		x := index.New()
		var l []api.Entry
		for _, at := range order {
			e := some[at]
			l = append(l, e)
			tells := api.ErrArg
			if at < len(is) {
				tells = api.ErrThere
				if _, ok := want[e.Name]; !ok {
					want[e.Name], tells = is[at], api.OK
				}
			}
			puts(t, x, e.Name, string(e.Body), tells)
			told[tells]++
		}
		has(t, x, want)
		has(t, index.Of(l), want)
		if len(order) < 4 {
			for i := range some {
				each(append(slices.Clone(order), i))
			}
		}
	}
	each(nil)
	if told[api.OK] < 1000 || told[api.ErrThere] < 1000 || told[api.ErrArg] < 1000 {
		t.Errorf("there were told %v", told)
	}
}

// P13.1: Of no entries, of those of a depot, of more than a depot may have, in other orders, and twice.
func TestOf(t *testing.T) {
	has(t, index.Of(nil), nil)
	has(t, index.Of([]api.Entry{}), nil)
	for n := range len(rising()) + 1 {
		var l []api.Entry
		want := map[string]api.Manifest{}
		for i, m := range manifests(n) {
			body := bytesOf(m)
			want[m.Name] = m
			if i%5 == 2 {
				body = body[:len(body)-1]
				want[m.Name] = api.Manifest{}
			}
			l = append(l, entry(m.Name, body))
		}
		has(t, index.Of(l), want)
		back := slices.Clone(l)
		slices.Reverse(back)
		has(t, index.Of(back), want)
		for _, e := range l {
			back = append(back, entry(e.Name, "\x01a\x00"), entry(strings.ToUpper(e.Name), ""))
		}
		has(t, index.Of(back), want)
	}
}

// P13.1: entries that can't be put stand in no other one's way.
func TestOfWrongEntries(t *testing.T) {
	var l []api.Entry
	for _, name := range noNames() {
		l = append(l, entry(name, bytesOf(bare(name))))
	}
	has(t, index.Of(l), nil)
	long := strings.Repeat("\x00", 8193)
	l = append(l, entry("a", long), entry("a", "\x01a\x01\x05\x00"), entry("a", long), entry("b", ""), entry("", ""), entry("b", "\x01b\x00"), entry("c", "\x01c\x00"))
	has(t, index.Of(l), map[string]api.Manifest{"a": bare("a", 5), "b": {}, "c": bare("c")})
}
