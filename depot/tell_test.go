package depot_test

import (
	"slices"
	"strings"
	"testing"

	"comprador/api"
	"comprador/depot"
	"comprador/wire"
)

// broken fails, if a body does not break a name, wherever it stands, or something else is told of it.
func broken(t *testing.T, name, body string) {
	t.Helper()
	var l []api.Entry
	for _, other := range []string{"b", "m", "ρ"} {
		l = append(l, entry(other, bytesOf(bare(other, 5))))
	}
	at := slices.IndexFunc(l, func(e api.Entry) bool { return e.Name > name })
	if at < 0 {
		at = len(l)
	}
	l = slices.Insert(l, at, entry(name, body))
	if !depot.Check(l) {
		t.Fatalf("%.80q may not be", l)
	}
	for _, d := range [][]api.Entry{entries(name, body), l} {
		if m, ok := depot.Manifest(d, name); m.Name != name || m.Releases != nil || ok {
			t.Errorf("of %q as %.60q the manifest is %v, %v", name, body, m, ok)
		}
		if got := depot.Broken(d); !slices.Equal(got, []string{name}) {
			t.Errorf("of %q as %.60q broken are %q", name, body, got)
		}
		if got := string(depot.Body(d, name)); got != body {
			t.Errorf("of %q as %.60q the body is %.60q", name, body, got)
		}
	}
}

// whole fails, if a body is not that of a manifest, for its name.
func whole(t *testing.T, m api.Manifest, body string) {
	t.Helper()
	d := entries(m.Name, body)
	if got, ok := depot.Manifest(d, m.Name); !alike(got, m) || !ok {
		t.Errorf("of %q as %q the manifest is %v, %v, not %v", m.Name, body, got, ok, m)
	}
	if got := depot.Broken(d); got != nil {
		t.Errorf("of %q as %q broken are %q", m.Name, body, got)
	}
	if got := string(depot.Body(d, m.Name)); got != body {
		t.Errorf("of %q as %q the body is %q", m.Name, body, got)
	}
}

// P12.2: the chapter's example, and other names without an entry.
func TestOfAnEmptyDepot(t *testing.T) {
	for _, d := range [][]api.Entry{nil, {}} {
		if b := depot.Body(d, "a"); !slices.Equal(b, []byte{1, 97, 0}) {
			t.Errorf("the body of a is %v", b)
		}
		for _, name := range rising() {
			if b := string(depot.Body(d, name)); b != text(name)+"\x00" {
				t.Errorf("the body of %q is %q", name, b)
			}
			if m, ok := depot.Manifest(d, name); m.Name != name || m.Releases != nil || !ok {
				t.Errorf("the manifest of %q is %v, %v", name, m, ok)
			}
		}
		if l := depot.Broken(d); l != nil {
			t.Errorf("broken are %q", l)
		}
	}
}

// P12.2, by hand.
func TestManifest(t *testing.T) {
	whole(t, bare("a"), "\x01a\x00")
	whole(t, bare("α-1"), "\x04\xce\xb1-1\x00")
	whole(t, bare("a", 0), "\x01a\x01\x00\x00")
	whole(t, bare("a", 5, 300), "\x01a\x02\x05\x00\x82\x2c\x00")
	whole(t, bare("a", 999999999), "\x01a\x01\x83\xdc\xeb\x93\x7f\x00")
	whole(t, pack("a", rel(5, of("b"))), "\x01a\x01\x05\x01\x01b\x00")
	whole(t, pack("a", rel(5, of("b", 300, 310))), "\x01a\x01\x05\x01\x01b\x01\x82\x2c\x0a")
	whole(t, pack("a", rel(5, of("a", 0, 1000000000))), "\x01a\x01\x05\x01\x01a\x01\x00\x83\xdc\xeb\x94\x00")
	for _, m := range manifests(len(rising())) {
		whole(t, m, bytesOf(m))
	}
}

// P12.2: bodies that are no manifest's.
func TestBodiesThatAreBroken(t *testing.T) {
	for _, name := range []string{"a", "c", "z", "α", "ω", "abcdefghijkl"} {
		for _, body := range []string{
			"", "\x00", "\x80", "\xff", name, text(name), "\x00\x00", "no manifest", text(name) + "\x00\x00", text(name) + "\x80", text(name) + "\x81", text(name) + "\x09", text(name) + "\x01", text(name) + "\x01\x05",
			text(name) + "\x01\x80\x05\x00", text(name) + "\x01\x05\x07", text(name) + "\x01\x05\x01\x01b\x07", text(name) + "\x01\x83\xdc\xeb\x94\x01\x00", text(name) + "\x00" + text(name) + "\x00",
			strings.Repeat("\x00", 8192), strings.Repeat("\xff", 8192), text(name) + "\x00" + strings.Repeat("\x00", 8000),
		} {
			broken(t, name, body)
		}
		for _, m := range mayNot(name) {
			if r := m.Releases[0]; r.Ver >= 0 {
				broken(t, name, bytesOf(m))
			}
		}
		for _, other := range noNames() {
			if len(other) < 8000 {
				broken(t, name, bytesOf(bare(other)))
			}
		}
	}
	if d := []api.Entry{{Name: "a"}}; !slices.Equal(depot.Broken(d), []string{"a"}) || depot.Body(d, "a") != nil {
		t.Errorf("of no bytes: broken are %q", depot.Broken(d))
	}
}

// P12.2: bodies that are another name's manifest.
func TestBodiesOfOtherNames(t *testing.T) {
	for _, name := range []string{"a", "c", "z", "α", "ω"} {
		for _, m := range manifests(len(rising())) {
			if m.Name != name {
				broken(t, name, bytesOf(m))
			}
		}
	}
	// each has the other one's
	d := entries("a", bytesOf(bare("b", 5)), "b", bytesOf(bare("a", 6)))
	for _, name := range []string{"a", "b"} {
		if m, ok := depot.Manifest(d, name); !alike(m, bare(name)) || ok {
			t.Errorf("the manifest of %q is %v, %v", name, m, ok)
		}
	}
	if l := depot.Broken(d); !slices.Equal(l, []string{"a", "b"}) {
		t.Errorf("broken are %q", l)
	}
}

// P12.2: in depots of each size each name is found, and each other one not.
func TestOfEachName(t *testing.T) {
	all := rising()
	for n := range 25 {
		for _, d := range [][]api.Entry{first(n), first(n)[n/3:]} {
			var want []string
			for _, name := range all {
				at := slices.IndexFunc(d, func(e api.Entry) bool { return e.Name == name })
				body, isBroken := text(name)+"\x00", false
				if at >= 0 {
					body = string(d[at].Body)
					isBroken = body[0] == 0x80
				}
				if isBroken {
					want = append(want, name)
				}
				if got := string(depot.Body(d, name)); got != body {
					t.Errorf("of %d entries the body of %q is %q, not %q", len(d), name, got, body)
				}
				if m, ok := depot.Manifest(d, name); !alike(m, bare(name)) || ok == isBroken {
					t.Errorf("of %d entries the manifest of %q is %v, %v", len(d), name, m, ok)
				}
			}
			if got := depot.Broken(d); !slices.Equal(got, want) {
				t.Errorf("of %d entries broken are %q, not %q", len(d), got, want)
			}
		}
	}
}

// P12.2: each subset of some entries is broken.
func TestBrokenOfEachSubset(t *testing.T) {
	names := []string{"a", "a-", "aa", "b", "z", "α", "αα", "ω"}
	for set := range 1 << len(names) {
		var d []api.Entry
		var want []string
		for i, name := range names {
			body := bytesOf(bare(name, 5, 6))
			if set>>i&1 == 1 {
				body = body[:len(body)-1]
				want = append(want, name)
			}
			d = append(d, entry(name, body))
		}
		if got := depot.Broken(d); !slices.Equal(got, want) {
			t.Errorf("broken are %q, not %q", got, want)
		}
		for i, name := range names {
			m, ok := depot.Manifest(d, name)
			if is := set>>i&1 == 1; ok == is || !is && !alike(m, bare(name, 5, 6)) || is && !alike(m, bare(name)) {
				t.Errorf("of the set %d: Manifest(%q) = %v, %v", set, name, m, ok)
			}
		}
	}
}

// P12.2: bodies that are cut, and of which a byte is another one, that is gone, or that came.
func TestOfSpoiltBodies(t *testing.T) {
	told := [2]int{}
	tells := func(name, body string) {
		m, e := wire.Read([]byte(body))
		d := entries(name, body, "zz", "\x02zz\x00")
		got, ok := depot.Manifest(d, name)
		if want := e == api.OK && m.Name == name; ok != want || want && !alike(got, m) || !want && !alike(got, bare(name)) {
			t.Fatalf("of %q as %q the manifest is %v, %v; it is read as %v, %d", name, body, got, ok, m, e)
		}
		l := depot.Broken(d)
		if ok && l != nil || !ok && !slices.Equal(l, []string{name}) {
			t.Fatalf("of %q as %q broken are %q", name, body, l)
		}
		if ok {
			told[1]++
		} else {
			told[0]++
		}
	}
	for _, m := range []api.Manifest{bare("a"), bare("ab", 5, 300), pack("a", rel(5, of("b", 2, 4), of("c"))), pack("a-1", rel(1), rel(2, of("a", 0, 1000000000)))} {
		b := bytesOf(m)
		tells(m.Name, b)
		for at := range len(b) {
			tells(m.Name, b[:at])
			tells(m.Name, b[at:]+b[:at])
			tells(m.Name, b[:at]+b[at+1:])
			for i := range 256 {
				one := string([]byte{byte(i)})
				tells(m.Name, b[:at]+one+b[at+1:])
				tells(m.Name, b[:at]+one+b[at:])
			}
		}
	}
	if told[0] < 10000 || told[1] < 300 {
		t.Errorf("there are %d that are broken, and %d that are not", told[0], told[1])
	}
}
