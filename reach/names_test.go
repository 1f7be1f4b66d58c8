package reach_test

import (
	"slices"
	"strings"
	"testing"

	"comprador/api"
	"comprador/index"
	"comprador/reach"
)

// P14.1: the chapter's example.
func TestExample(t *testing.T) {
	x := knows(t, entries("a:b")...)
	tells(t, x, asks("a"), []string{"a", "b"}, []string{"b"})
}

// P14.1, by hand.
func TestByHand(t *testing.T) {
	for _, c := range []struct{ known, root, names, missing string }{
		// nothing is asked for
		{"", "", "", ""},
		{"a:b|b", "", "", ""},
		// nothing is known
		{"", "a", "a", "a"},
		{"", "a b", "a b", "a b"},
		{"", "a a- a0 b z α", "a a- a0 b z α", "a a- a0 b z α"},
		// what needs nothing
		{"a", "a", "a", ""},
		{"a:", "a", "a", ""},
		{"a:;;", "a", "a", ""},
		{"a", "b", "b", "b"},
		{"b:a", "a", "a", "a"},
		{"a|b", "a", "a", ""},
		{"a|c", "a b c", "a b c", "b"},
		// what is broken needs nothing, and is known
		{"a!", "a", "a", ""},
		{"a!:b", "a", "a", ""},
		{"a=b:c", "a", "a", ""},
		{"a=b:c", "a b", "a b", "b"},
		{"a=b:c|b", "a b", "a b", ""},
		{"a:b|b!:c", "a", "a b", ""},
		{"a:b|b=c:d|c:e", "a", "a b", ""},
		// releases that need something
		{"a:b|b", "a", "a b", ""},
		{"a:b c", "a", "a b c", "b c"},
		{"a:b;c", "a", "a b c", "b c"},
		{"a:b;b", "a", "a b", "b"},
		{"a:b;;", "a", "a b", "b"},
		{"a:;;b", "a", "a b", "b"},
		{"a:b c d e f g;h", "a", "a b c d e f g h", "b c d e f g h"},
		{"a:b|c:d", "a", "a b", "b"},
		{"a:b|c:d", "a c", "a b c d", "b d"},
		{"a:c|b:c", "a b", "a b c", "c"},
		{"a:c|b:c|c:d", "a b", "a b c d", "d"},
		// chains, one behind the other, and the other way round
		{"a:b|b:c|c:d|d", "a", "a b c d", ""},
		{"a:b|b:c|d:e", "a", "a b c", "c"},
		{"d:c|c:b|b:a", "d", "a b c d", "a"},
		{"c:b|b:a|a:", "c", "a b c", ""},
		{"a:b|b:c|c:d|d", "c", "c d", ""},
		// rings
		{"a:a", "a", "a", ""},
		{"a:b|b:a", "a", "a b", ""},
		{"a:b|b:a", "b", "a b", ""},
		{"a:b|b:c|c:a", "b", "a b c", ""},
		{"a:a b;b|b:a b c", "a", "a b c", "c"},
		{"a:b|b:a|c:d|d:c", "d", "c d", ""},
		{"a:b|b:a|c:d|d:c", "a c", "a b c d", ""},
		// many ways to one name
		{"a:b c|b:d|c:d|d:e", "a", "a b c d e", "e"},
		{"a:b;c;d|b:c d|c:b d|d:b c", "a", "a b c d", ""},
		// texts byte by byte
		{"m:a- a0 aa α;a|z", "m z", "a a- a0 aa m z α", "a a- a0 aa α"},
		{"α:a z|a:ω", "α", "a z α ω", "z ω"},
	} {
		var l []api.Entry
		if c.known != "" {
			l = entries(strings.Split(c.known, "|")...)
		}
		names, missing := strings.Fields(c.names), strings.Fields(c.missing)
		tells(t, knows(t, l...), asks(c.root), names, missing)
		slices.Reverse(l)
		tells(t, knows(t, l...), asks(c.root), names, missing)
	}
}

// P14.1: whatever versions are needed, none of them among it, a name is needed.
func TestOfAnySet(t *testing.T) {
	for _, in := range [][]int{{}, {0, 1}, {5, 6}, {6, 7}, {999999999, 1000000000}, {0, 1000000000}, {0, 1, 2, 3, 4, 5, 6, 7, 8, 9, 10, 11}} {
		for _, ver := range []int{0, 5, 999999999} {
			x := knows(t, api.Entry{Name: "a", Body: []byte(bytesOf(pack("a", rel(ver, of("b", in...)))))})
			for _, asked := range [][]int{{}, {5, 6}, {0, 1000000000}} {
				tells(t, x, []api.Need{of("a", asked...)}, []string{"a", "b"}, []string{"b"})
			}
		}
	}
}

// P14.1: each need of each release counts, of as many as there may be.
func TestEachNeedOfEachRelease(t *testing.T) {
	l := letters(48)
	m := pack("m")
	for i := range 8 {
		m.Releases = append(m.Releases, rel(i, named(l[i*6:i*6+6]...)...))
	}
	x := knows(t, api.Entry{Name: "m", Body: []byte(bytesOf(m))})
	tells(t, x, asks("m"), append(slices.Clone(l), "m"), l)
	for i, name := range l {
		y := x.Clone()
		puts(t, y, entry(name+":z"))
		tells(t, y, asks("m"), append(slices.Clone(l), "m", "z"), append(slices.Delete(slices.Clone(l), i, i+1), "z"))
	}
}

// P14.1: each need of root counts, of as many as there may be.
func TestEachNeedOfRoot(t *testing.T) {
	names := strings.Fields("a b c d e f")
	x := knows(t, entries("a:g", "b:h", "c:i", "d:j", "e:k", "f:l")...)
	for bits := range 64 {
		asked := subset(names, bits)
		needed := subset(strings.Fields("g h i j k l"), bits)
		tells(t, x, named(asked...), append(slices.Clone(asked), needed...), needed)
	}
}

// P14.1: of a nil index, and of one that knows nothing, the names of root may be needed, and are missing.
func TestOfNothingKnown(t *testing.T) {
	names := strings.Fields("a b- c1 d ω ωω")
	for _, x := range []*index.Index{nil, index.New(), {}, index.Of(nil), index.New().Clone()} {
		for bits := range 64 {
			l := subset(names, bits)
			tells(t, x, named(l...), l, l)
		}
	}
}

// P14.1: each way in which three names, each of which is known, broken or neither, may need one another, and be asked for.
func TestEachGraph(t *testing.T) {
	names := strings.Fields("a b c")
	whole, not := 0, 0
	for edges := range 512 {
		for states := range 27 {
			x := index.New()
			for i, name := range names {
				body := bytesOf(pack(name, rel(5), rel(6, named(subset(names, edges>>(3*i)%8)...)...)))
				switch states / []int{1, 3, 9}[i] % 3 {
				case 1:
					puts(t, x, api.Entry{Name: name, Body: []byte(body)})
				case 2:
					puts(t, x, api.Entry{Name: name, Body: []byte(body + "\x00")})
				}
			}
			for bits := range 8 {
				root := named(subset(names, bits)...)
				all, missing := model(x, root)
				tells(t, x, root, all, missing)
				if len(missing) == 0 {
					whole++
				} else {
					not++
				}
			}
		}
	}
	if whole < 20000 || not < 20000 {
		t.Errorf("there are %d that are whole, and %d that are not", whole, not)
	}
}

// P14.1: drawn indexes, more than a depot may have.
func TestDrawn(t *testing.T) {
	draw := drawer(1)
	names := letters(40)
	sizes := map[int]bool{}
	for range 2000 {
		x := index.New()
		for _, name := range some(draw, names, 60) {
			puts(t, x, drawn(draw, name, names))
		}
		root := named(some(draw, names, 6)...)
		all, missing := model(x, root)
		tells(t, x, root, all, missing)
		sizes[len(all)] = true
	}
	if len(sizes) < 25 {
		t.Errorf("there are just %d sizes", len(sizes))
	}
}

// P14.2: the more an index knows, the more may be needed; of one that is whole nothing becomes needed.
func TestMoreIsKnown(t *testing.T) {
	draw := drawer(2)
	names := letters(16)
	grew, stood := 0, 0
	for range 400 {
		x := index.New()
		root := named(some(draw, names, 3)...)
		was, whole := reach.Names(x, root), reach.Whole(x, root)
		rest := slices.Clone(names)
		for len(rest) > 0 {
			i := draw(len(rest))
			puts(t, x, drawn(draw, rest[i], names))
			rest = slices.Delete(rest, i, i+1)
			now := reach.Names(x, root)
			for _, name := range was {
				if !slices.Contains(now, name) {
					t.Fatalf("%q was needed, and is not any more", name)
				}
			}
			if whole && (!slices.Equal(now, was) || !reach.Whole(x, root)) {
				t.Fatalf("behind a whole one %q became %q", was, now)
			}
			if len(now) > len(was) {
				grew++
			}
			if whole {
				stood++
			}
			was, whole = now, reach.Whole(x, root)
		}
		if !whole || len(reach.Missing(x, root)) > 0 {
			t.Fatal("all is known, and something is missing")
		}
	}
	if grew < 300 || stood < 300 {
		t.Errorf("%d times more was needed, %d times it was whole", grew, stood)
	}
}

// P14.2: a name that may be needed is one of root, or needed by a release of another one; and all of these may be needed.
func TestWhereNamesComeFrom(t *testing.T) {
	draw := drawer(3)
	names := letters(20)
	for range 500 {
		x := index.New()
		for _, name := range some(draw, names, 30) {
			puts(t, x, drawn(draw, name, names))
		}
		root := named(some(draw, names, 3)...)
		l := reach.Names(x, root)
		from := map[string]bool{}
		for _, n := range root {
			from[n.Name] = true
		}
		for _, name := range l {
			m, _ := x.Get(name)
			for _, r := range m.Releases {
				for _, n := range r.Needs {
					from[n.Name] = from[n.Name] || n.Name != name
					if !slices.Contains(l, n.Name) {
						t.Fatalf("%q needs %q, which may not be needed", name, n.Name)
					}
				}
			}
		}
		for _, name := range l {
			if !from[name] {
				t.Fatalf("%q is needed by nothing", name)
			}
		}
		for _, n := range root {
			if !slices.Contains(l, n.Name) {
				t.Fatalf("%q is asked for, and may not be needed", n.Name)
			}
		}
	}
}

// P14.2: what is missing is put, until nothing is: all of it was needed.
func TestUntilWhole(t *testing.T) {
	draw := drawer(4)
	names := letters(300)
	most := 0
	for range 60 {
		x := index.New()
		root := named(some(draw, names, 6)...)
		put := 0
		for l := reach.Missing(x, root); len(l) > 0; l = reach.Missing(x, root) {
			if reach.Whole(x, root) {
				t.Fatalf("%q are missing of a whole one", l)
			}
			puts(t, x, drawn(draw, l[draw(len(l))], names))
			put++
		}
		if !reach.Whole(x, root) || !slices.Equal(reach.Names(x, root), x.Names()) || x.Len() != put {
			t.Fatalf("%q may be needed, %q were put", reach.Names(x, root), x.Names())
		}
		most = max(most, put)
	}
	if most < 50 {
		t.Errorf("at most %d were put", most)
	}
}
