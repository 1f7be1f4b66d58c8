package wire_test

import (
	"slices"
	"strings"
	"testing"

	"comprador/api"
	"comprador/mani"
	"comprador/wire"
)

// wrong is an error by which a cutter stops at once.
type wrong api.Errno

// cutter is another way to read: by what is left, and without a reader.
type cutter struct{ left string }

func (c *cutter) num(most int) int {
	end := slices.IndexFunc([]byte(c.left), func(b byte) bool { return b < 128 })
	switch {
	case c.left == "":
		panic(wrong(api.ErrShort))
	case c.left[0] == 128:
		panic(wrong(api.ErrForm))
	case end >= 6 || end < 0 && len(c.left) >= 6:
		panic(wrong(api.ErrLong))
	case end < 0:
		panic(wrong(api.ErrShort))
	}
	n := 0
	for i := range end + 1 {
		n = 128*n + int(c.left[i])%128
	}
	if n > 1<<40 || n > most {
		panic(wrong(api.ErrLong))
	}
	c.left = c.left[end+1:]
	return n
}

func (c *cutter) str() string {
	n := c.num(24)
	if n > len(c.left) {
		panic(wrong(api.ErrShort))
	}
	s := c.left[:n]
	c.left = c.left[n:]
	return s
}

// readOther is Read, in another way.
func readOther(b string) (m api.Manifest, e api.Errno) {
	defer func() {
		if w := recover(); w != nil {
			m, e = api.Manifest{}, api.Errno(w.(wrong))
		}
	}()
	if len(b) > 8192 {
		panic(wrong(api.ErrLong))
	}
	c := &cutter{left: b}
	m.Name = c.str()
	for i := c.num(8); i > 0; i-- {
		r := api.Release{Ver: c.num(1000000000)}
		for j := c.num(6); j > 0; j-- {
			n := api.Need{Name: c.str()}
			for k := c.num(6); k > 0; k-- {
				lo := c.num(1000000000)
				n.In = append(n.In, api.Span{Lo: lo, Hi: lo + c.num(1000000000)})
			}
			r.Needs = append(r.Needs, n)
		}
		m.Releases = append(m.Releases, r)
	}
	if c.left != "" || !mani.Check(m) {
		panic(wrong(api.ErrForm))
	}
	return m, api.OK
}

// reads fails, if bytes are read otherwise than in the other way; it tells whether they are a manifest's.
func reads(t *testing.T, b string) bool {
	t.Helper()
	got, e := wire.Read([]byte(b))
	want, also := readOther(b)
	if !alike(got, want) || e != also {
		t.Fatalf("Read(%q) = %v, %d, not %v, %d", b, got, e, want, also)
	}
	if e != api.OK {
		return false
	}
	// P10.3: what is read is put so.
	if again := string(wire.Put(got)); again != b || !mani.Check(got) {
		t.Fatalf("Read(%q) = %v, which is put as %q", b, got, again)
	}
	return true
}

// P10.2
func TestReadOfManifests(t *testing.T) {
	for _, c := range []struct {
		b    string
		want api.Manifest
	}{
		{"\x01a\x00", bare("a")},
		{"\x04\xce\xb1-1\x00", bare("α-1")},
		{"\x01a\x01\x00\x00", bare("a", 0)},
		{"\x01a\x02\x7f\x00\x81\x00\x00", bare("a", 127, 128)},
		{"\x01a\x01\x83\xdc\xeb\x93\x7f\x00", bare("a", 999999999)},
		{"\x01a\x01\x05\x01\x01b\x00", pack("a", rel(5, of("b")))},
		{"\x01a\x01\x05\x01\x01b\x01\x82\x2c\x0a", pack("a", rel(5, of("b", 300, 310)))},
		{"\x01a\x01\x05\x01\x01b\x01\x00\x83\xdc\xeb\x94\x00", pack("a", rel(5, named("b")...))},
		{"\x01a\x01\x05\x02\x01b\x02\x02\x02\x09\x01\x02cd\x01\x07\x01", pack("a", rel(5, of("b", 2, 4, 9, 10), of("cd", 7, 8)))},
		{"\x01a\x03\x01\x01\x01b\x01\x02\x02\x02\x00\x03\x01\x01c\x00", pack("a", rel(1, of("b", 2, 4)), rel(2), rel(3, of("c")))},
	} {
		if got, e := wire.Read([]byte(c.b)); !alike(got, c.want) || e != api.OK {
			t.Errorf("Read(%q) = %v, %d, not %v", c.b, got, e, c.want)
		}
	}
}

// tells fails, if bytes have another error than that one, or something else is told beside it.
func tells(t *testing.T, b string, want api.Errno) {
	t.Helper()
	if got, e := wire.Read([]byte(b)); e != want || got.Name != "" || got.Releases != nil {
		t.Errorf("Read(%q) = %v, %d, not %d", b, got, e, want)
	}
}

// places are where numbers stand: what is ahead of each, and what it is at most.
var places = []struct {
	ahead string
	most  int
}{
	{"", 24},
	{"\x01a", 8},
	{"\x01a\x01", 1000000000},
	{"\x01a\x01\x05", 6},
	{"\x01a\x01\x05\x01", 24},
	{"\x01a\x01\x05\x01\x01b", 6},
	{"\x01a\x01\x05\x01\x01b\x01", 1000000000},
	{"\x01a\x01\x05\x01\x01b\x01\x07", 1000000000},
	// behind others of their kind
	{"\x01a\x02\x05\x00", 1000000000},
	{"\x01a\x02\x05\x00\x06", 6},
	{"\x01a\x01\x05\x02\x01b\x00", 24},
	{"\x01a\x01\x05\x02\x01b\x00\x01c", 6},
	{"\x01a\x01\x05\x01\x01b\x02\x07\x01", 1000000000},
	{"\x01a\x01\x05\x01\x01b\x02\x07\x01\x09", 1000000000},
}

// P10.2: Num's errors, at each place where a number stands, whatever is behind it.
func TestReadOfWrongNumbers(t *testing.T) {
	for _, p := range places {
		tells(t, p.ahead, api.ErrShort)
		for _, cut := range []string{"\x81", "\xff", "\x81\x80", "\xff\xff\xff\xff", "\x81\x80\x80\x80\x80", "\xff\xff\xff\xff\xff"} {
			tells(t, p.ahead+cut, api.ErrShort)
		}
		for _, behind := range []string{"", "\x00", "\x01a\x00", "\x80", "\x81\x80\x80\x80\x80\x80\x80"} {
			tells(t, p.ahead+"\x80"+behind, api.ErrForm)
			for _, long := range []string{"\x81\x80\x80\x80\x80\x80", "\xff\xff\xff\xff\xff\xff", num(1<<40 + 1), num(1 << 40), num(p.most + 1)} {
				tells(t, p.ahead+long+behind, api.ErrLong)
			}
		}
	}
}

// P10.2: a number that is as great as it may be is no error of its own.
func TestReadOfGreatestNumbers(t *testing.T) {
	for _, p := range places[:7] {
		tells(t, p.ahead+num(p.most), api.ErrShort)
	}
	const top = "\x83\xdc\xeb\x94\x00"
	tells(t, "\x01a\x01"+top+"\x00", api.ErrForm)
	tells(t, "\x01a\x01\x05\x01\x01b\x01"+top+"\x00", api.ErrForm)
	tells(t, "\x01a\x01\x05\x01\x01b\x01"+top+"\x01", api.ErrForm)
	tells(t, "\x01a\x01\x05\x01\x01b\x01"+top+top, api.ErrForm)
	tells(t, "\x01a\x01\x05\x01\x01b\x01\x01"+top, api.ErrForm)
	if !reads(t, "\x01a\x01\x05\x01\x01b\x01\x00"+top) {
		t.Error("all versions, as a span, are not read")
	}
}

// P10.2: how many bytes a name has at most, the package's and a needed one's.
func TestReadOfNames(t *testing.T) {
	for size := range 40 {
		for _, name := range []string{strings.Repeat("a", size), strings.Repeat("ω", size/2) + strings.Repeat("b", size%2)} {
			want := api.OK
			switch {
			case size > 24:
				want = api.ErrLong
			case len([]rune(name)) > 12 || size == 0:
				want = api.ErrForm
			}
			for _, b := range []string{text(name) + "\x00", "\x01x\x01\x05\x01" + text(name) + "\x00"} {
				if want != api.OK {
					tells(t, b, want)
				} else if !reads(t, b) {
					t.Errorf("%q is not read", b)
				}
			}
			// a text that is cut: the count's error is ahead
			if size > 24 {
				tells(t, num(size), api.ErrLong)
			} else if size > 0 {
				tells(t, text(name)[:size], api.ErrShort)
				tells(t, "\x01x\x01\x05\x01"+text(name)[:size], api.ErrShort)
			}
		}
	}
}

// P10.2: how many releases, needs and spans there are at most; of more it is told at once.
func TestReadOfManyParts(t *testing.T) {
	for n := range 300 {
		releases, needs, in := "\x01a"+num(n), "\x01a\x01\x05"+num(n), "\x01a\x01\x05\x01\x01b"+num(n)
		for i := range n {
			releases += num(i) + "\x00"
			needs += text(string(rune('a'+i%26))) + "\x00"
			in += num(2*i) + "\x01"
		}
		for most, b := range map[int][]string{8: {releases}, 6: {needs, in}} {
			for _, b := range b {
				if n > most {
					tells(t, b, api.ErrLong)
				} else if !reads(t, b) {
					t.Errorf("%q is not read", b)
				}
			}
		}
	}
	tells(t, "\x01a\x09", api.ErrLong)
	tells(t, "\x01a\x01\x05\x07", api.ErrLong)
	tells(t, "\x01a\x01\x05\x01\x01b\x07", api.ErrLong)
}

// P10.2: more than MaxBody bytes are told ahead of all else, up to these what is wrong in them.
func TestReadOfManyBytes(t *testing.T) {
	for _, c := range []struct {
		ahead  string
		within api.Errno
	}{
		{"\x01a\x00", api.ErrForm}, {string(wire.Put(greatest())), api.ErrForm}, {"\x80", api.ErrForm}, {"\x01A\x00", api.ErrForm}, {"", api.ErrForm}, {"\x19", api.ErrLong}, {"\x01a\x09", api.ErrLong}, {"\x01a\x01\xff\xff\xff\xff\xff\xff", api.ErrLong},
	} {
		for _, size := range []int{8191, 8192, 8193, 8194, 1 << 20} {
			want := c.within
			if size > 8192 {
				want = api.ErrLong
			}
			tells(t, c.ahead+strings.Repeat("\x00", size-len(c.ahead)), want)
		}
	}
	// all that is read is read within: ErrForm is of what is left
	tells(t, strings.Repeat("\x80", 8192), api.ErrForm)
	tells(t, strings.Repeat("\x80", 8193), api.ErrLong)
}

// P10.2: bytes that are left, and manifests that may not be, are told at the end; what is wrong ahead of it is first.
func TestReadAtTheEnd(t *testing.T) {
	for _, m := range mayBe() {
		b := bytesOf(m)
		for _, left := range []string{"\x00", "\x01", "\x80", "\xff\xff\xff\xff\xff\xff", b} {
			tells(t, b+left, api.ErrForm)
		}
	}
	for _, c := range []string{
		"\x00\x00", "\x01A\x00", "\x01\xff\x00", "\x02\xce\xb1\x01\x05\x01\x01B\x00",
		"\x01a\x02\x05\x00\x05\x00", "\x01a\x02\x06\x00\x05\x00", "\x01a\x02\x05\x01\x01b\x00\x05\x00",
		"\x01a\x01\x05\x02\x01b\x00\x01b\x00", "\x01a\x01\x05\x02\x01c\x00\x01b\x00",
		"\x01a\x01\x05\x01\x01b\x01\x05\x00", "\x01a\x01\x05\x01\x01b\x02\x05\x02\x07\x01", "\x01a\x01\x05\x01\x01b\x02\x05\x02\x06\x01", "\x01a\x01\x05\x01\x01b\x02\x05\x01\x02\x01",
	} {
		tells(t, c, api.ErrForm)
		tells(t, c+"\x00", api.ErrForm)
		// where it is cut nothing is told of what may not be
		for size := range len(c) {
			tells(t, c[:size], api.ErrShort)
		}
	}
	// something that may not be, and behind it something that is wrong
	tells(t, "\x01A\x09", api.ErrLong)
	tells(t, "\x00\x81", api.ErrShort)
	tells(t, "\x01a\x02\x06\x00\x05\x07", api.ErrLong)
	tells(t, "\x01a\x01\x05\x01\x01b\x02\x05\x00\x80", api.ErrForm)
	tells(t, "\x01a\x01\x05\x01\x01b\x02\x05\x00\xff\xff\xff\xff\xff\xff", api.ErrLong)
	// two things that are wrong: the left one
	tells(t, "\x19\x80", api.ErrLong)
	tells(t, "\x80\x19", api.ErrForm)
	tells(t, "\x01a\x01\x05\x07\x80", api.ErrLong)
	tells(t, "\x01a\x01\x80\x07", api.ErrForm)
	tells(t, "\x01a\x02\x05\x09\x80", api.ErrLong)
}

// all tells each text of up to some bytes out of letters.
func all(letters string, size int, each func(s string)) {
	each("")
	for last := []string{""}; size > 0; size-- {
		var next []string
		for _, s := range last {
			for i := range len(letters) {
				next = append(next, s+letters[i:i+1])
				each(s + letters[i:i+1])
			}
		}
		last = next
	}
}

// P10.2, P10.3: all bytes that go on in some ways.
func TestReadOfAllBytes(t *testing.T) {
	for _, c := range []struct {
		ahead, letters string
		size, some     int
	}{
		{"", "\x00\x01\x02ab\x80\x81", 6, 20},
		{"\x01a", "\x00\x01\x02b\x7f\x80\x81", 6, 80},
		{"\x01a\x02\x05\x00", "\x00\x01\x05\x06c\x80", 6, 4},
		{"\x01a\x01\x05\x01", "\x00\x01\x02b\x07\x80\xff", 6, 4},
		{"\x01a\x01\x05\x01\x01b", "\x00\x01\x02\x03\x04\x80\x81", 6, 100},
		{"\x01a\x01\x05\x02\x01b\x01\x01\x01", "\x00\x01\x02bc\x81", 6, 3},
		{"\x01a\x01\x05\x01\x01b\x01\x00", "\x00\x01\x83\xdc\xeb\x94", 6, 4},
	} {
		some := 0
		all(c.letters, c.size, func(s string) {
			if reads(t, c.ahead+s) {
				some++
			}
		})
		if some < c.some {
			t.Errorf("behind %q only %d manifests are read", c.ahead, some)
		}
	}
}

// P10.2, P10.3: bytes of manifests, cut, and with a byte that is another one, that is gone, or that came.
func TestReadOfSpoiltBytes(t *testing.T) {
	letters := ""
	for i := range 256 {
		letters += string([]byte{byte(i)})
	}
	few := "\x00\x01\x06a\x7f\x80\x81\xff"
	for _, m := range mayBe() {
		b, letters := bytesOf(m), letters
		if len(b) > 100 {
			letters = few
		}
		if !reads(t, b) {
			t.Fatalf("%q is not read", b)
		}
		for at := range len(b) {
			if reads(t, b[:at]) {
				t.Fatalf("%q is read", b[:at])
			}
			reads(t, b[at:])
			reads(t, b[:at]+b[at+1:])
			for i := range len(letters) {
				reads(t, b[:at]+letters[i:i+1]+b[at+1:])
			}
			for i := range len(few) {
				reads(t, b[:at]+few[i:i+1]+b[at:])
			}
		}
	}
}

// P10.3: what may not be is not read, either.
func TestReadOfSuchAsMayNotBe(t *testing.T) {
	for _, m := range mayNot() {
		if slices.ContainsFunc(m.Releases, below) {
			continue // no number's bytes are of one below 0
		}
		if b := bytesOf(m); reads(t, b) {
			t.Errorf("%q is read", b)
		}
	}
}

// below tells whether a release has a number that is below 0.
func below(r api.Release) bool {
	return r.Ver < 0 || slices.ContainsFunc(r.Needs, func(n api.Need) bool {
		return slices.ContainsFunc(n.In, func(s api.Span) bool { return s.Lo < 0 || s.Hi < s.Lo })
	})
}
