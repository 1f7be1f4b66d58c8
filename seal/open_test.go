package seal_test

import (
	"slices"
	"strings"
	"testing"

	"comprador/api"
	"comprador/label"
	"comprador/seal"
)

// wrong is an error by which a cutter stops at once.
type wrong api.Errno

// cutter is another way to read: by what is left, and without a reader.
type cutter struct{ left string }

func (c *cutter) num(most int) int {
	end := slices.IndexFunc([]byte(c.left), func(b byte) bool { return b < 128 })
	switch {
	case c.left == "":
		panic(wrong(api.ErrShort))
	case c.left[0] == 128:
		panic(wrong(api.ErrForm))
	case end >= 6 || end < 0 && len(c.left) >= 6:
		panic(wrong(api.ErrLong))
	case end < 0:
		panic(wrong(api.ErrShort))
	}
	n := 0
	for i := range end + 1 {
		n = 128*n + int(c.left[i])%128
	}
	if n > most {
		panic(wrong(api.ErrLong))
	}
	c.left = c.left[end+1:]
	return n
}

func (c *cutter) str(most int) string {
	n := c.num(most)
	if n > len(c.left) {
		panic(wrong(api.ErrShort))
	}
	s := c.left[:n]
	c.left = c.left[n:]
	return s
}

// openOther is Open, in another way.
func openOther(b string) (name, body string, e api.Errno) {
	defer func() {
		if w := recover(); w != nil {
			name, body, e = "", "", api.Errno(w.(wrong))
		}
	}()
	if len(b) < 4 || sealed(b[:len(b)-4]) != b {
		panic(wrong(api.ErrSum))
	}
	c := &cutter{left: b[:len(b)-4]}
	name, body = c.str(24), c.str(8192)
	if c.left != "" || !label.Fit(name) {
		panic(wrong(api.ErrForm))
	}
	return name, body, api.OK
}

// opens fails, if bytes are opened otherwise than in the other way; it tells whether they are a reply's.
func opens(t *testing.T, b string) bool {
	t.Helper()
	name, body, e := seal.Open([]byte(b))
	wantName, wantBody, also := openOther(b)
	if name != wantName || string(body) != wantBody || e != also {
		t.Fatalf("Open(%.60q), of %d bytes, = %q, %.40q, %d, not %q, %.40q, %d", b, len(b), name, body, e, wantName, wantBody, also)
	}
	if e != api.OK {
		return false
	}
	if again := string(seal.Pack(name, body)); again != b {
		t.Fatalf("Open(%.60q) = %q, %.40q, which is packed as %.60q", b, name, body, again)
	}
	return true
}

// tells fails, if bytes have another error than that one, or something else is told beside it.
func tells(t *testing.T, b string, want api.Errno) {
	t.Helper()
	if name, body, e := seal.Open([]byte(b)); e != want || name != "" || body != nil {
		t.Errorf("Open(%.60q), of %d bytes, = %q, %.40q, %d, not %d", b, len(b), name, body, e, want)
	}
}

// inside fails, if bytes, when they are sealed, have another error than that one.
func inside(t *testing.T, b string, want api.Errno) {
	t.Helper()
	tells(t, sealed(b), want)
}

// P11.2, by hand.
func TestOpen(t *testing.T) {
	for _, c := range []struct{ b, name, body string }{
		{"\x01a\x00\x72\xba\xa6\x35", "a", ""},
		{"\x01a\x03\x01a\x00\xb0\x93\xef\x16", "a", "\x01a\x00"},
		{"\x04\xce\xb1-1\x03xyz\x10\x10\xad\xe0", "α-1", "xyz"},
		{"\x01b\x03\x00\xff\x80\x8d\xe4\x77\xde", "b", "\x00\xff\x80"},
	} {
		if name, body, e := seal.Open([]byte(c.b)); name != c.name || string(body) != c.body || e != api.OK {
			t.Errorf("Open(%q) = %q, %q, %d, not %q, %q", c.b, name, body, e, c.name, c.body)
		}
	}
}

// P11.2: what is not sealed, the chapter's example among it.
func TestOpenOfWhatIsNotSealed(t *testing.T) {
	if name, body, e := seal.Open(nil); name != "" || body != nil || e != api.ErrSum {
		t.Errorf("Open(nil) = %q, %q, %d", name, body, e)
	}
	for _, b := range []string{"", "\x81", "\x81\x1c", "\x81\x1c\x9d", "\x1c\x9d\xc5", "\x00\x00\x00\x00", "\xff\xff\xff\xff", "\xc5\x9d\x1c\x81", "abcdefg", "\x01a\x00", "\x01a\x00\x00\x00\x00\x00"} {
		tells(t, b, api.ErrSum)
	}
	for _, body := range bodies() {
		b := reply("a", body)
		n := len(b)
		tells(t, b[:n-4], api.ErrSum)
		tells(t, b[:n-1], api.ErrSum)
		tells(t, b[1:], api.ErrSum)
		tells(t, b+"\x00", api.ErrSum)
		tells(t, "\x00"+b, api.ErrSum)
		tells(t, b[n-4:]+b[:n-4], api.ErrSum)
		tells(t, b[:n-4]+b[n-1:]+b[n-2:n-1]+b[n-3:n-2]+b[n-4:n-3], api.ErrSum) // the lowest one first
	}
}

// P11.2: that it is not opened is told ahead of whatever else is wrong.
func TestTheSumIsFirst(t *testing.T) {
	for _, c := range []struct {
		inner string
		want  api.Errno
	}{
		{"", api.ErrShort}, {"\x80", api.ErrForm}, {"\x19", api.ErrLong}, {"\x01", api.ErrShort}, {"\x01a", api.ErrShort}, {"\x01a\x01", api.ErrShort},
		{"\x01a\xc0\x01", api.ErrLong}, {"\x01a\x00\x00", api.ErrForm}, {"\x01A\x00", api.ErrForm}, {"\x00\x00", api.ErrForm}, {strings.Repeat("\xff", 1<<20), api.ErrLong},
	} {
		b := sealed(c.inner)
		tells(t, b, c.want)
		last := b[len(b)-1]
		for x := 1; x < 256; x++ {
			tells(t, b[:len(b)-1]+string([]byte{last ^ byte(x)}), api.ErrSum)
		}
		tells(t, b[:len(b)-1], api.ErrSum)
	}
}

// P11.2: Num's errors, of the name's count and of the body's, whatever is behind it.
func TestOpenOfWrongNumbers(t *testing.T) {
	for _, p := range []struct {
		ahead string
		most  int
	}{
		{"", 24}, {"\x01a", 8192}, {"\x04\xce\xb1-1", 8192}, {text(strings.Repeat("ω", 12)), 8192},
		// a name that may not be is told behind them
		{"\x01A", 8192}, {"\x00", 8192}, {text(strings.Repeat("a", 13)), 8192},
	} {
		inside(t, p.ahead, api.ErrShort)
		for _, cut := range []string{"\x81", "\xff", "\x81\x80", "\xff\xff\xff\xff", "\x81\x80\x80\x80\x80", "\xff\xff\xff\xff\xff"} {
			inside(t, p.ahead+cut, api.ErrShort)
		}
		for _, behind := range []string{"", "\x00", "\x01a\x00", "\x80", "\x81\x80\x80\x80\x80\x80\x80", strings.Repeat("a", 9000)} {
			inside(t, p.ahead+"\x80"+behind, api.ErrForm)
			for _, long := range []string{"\x81\x80\x80\x80\x80\x80", "\xff\xff\xff\xff\xff\xff", num(1<<40 + 1), num(1 << 40), num(p.most + 1)} {
				inside(t, p.ahead+long+behind, api.ErrLong)
			}
		}
		inside(t, p.ahead+num(p.most), api.ErrShort)
		inside(t, p.ahead+num(p.most)+strings.Repeat("a", p.most-1), api.ErrShort)
	}
}

// P11.2: how many bytes a name has at most, and which of those may be.
func TestOpenOfNames(t *testing.T) {
	for size := range 200 {
		for _, name := range []string{strings.Repeat("a", size), strings.Repeat("ω", size/2) + strings.Repeat("b", size%2), strings.Repeat("\xff", size)} {
			b := text(name) + "\x03xyz"
			switch {
			case size > 24:
				inside(t, b, api.ErrLong)
				inside(t, num(size), api.ErrLong) // ahead of ErrShort
			case label.Fit(name):
				if !opens(t, sealed(b)) {
					t.Errorf("%q is not opened", name)
				}
			default:
				inside(t, b, api.ErrForm)
			}
			if size > 0 && size <= 24 {
				inside(t, text(name)[:size], api.ErrShort)
			}
		}
	}
	for _, name := range noNames() {
		want := api.ErrForm
		if len(name) > 24 {
			want = api.ErrLong
		}
		for _, body := range bodies() {
			inside(t, text(name)+text(body), want)
		}
	}
}

// P11.2: how many bytes a body has at most.
func TestOpenOfBodies(t *testing.T) {
	whole := strings.Repeat("0123456789abcdef\x00\x80\xff", 500)
	for size := range 8400 {
		b := "\x01a" + text(whole[:size])
		if size > 8192 {
			inside(t, b, api.ErrLong)
			inside(t, "\x01a"+num(size), api.ErrLong) // ahead of ErrShort
			continue
		}
		if !opens(t, sealed(b)) {
			t.Fatalf("a body of %d bytes is not opened", size)
		}
		if size > 0 {
			inside(t, b[:len(b)-1], api.ErrShort)
		}
		inside(t, b+"\x00", api.ErrForm)
	}
	inside(t, "\x01a"+text(strings.Repeat("x", 1<<20)), api.ErrLong)
}

// P11.2: bytes that are left, and names that may not be, are told at the end; what is wrong ahead of it is first.
func TestOpenAtTheEnd(t *testing.T) {
	for _, name := range names() {
		for _, body := range bodies() {
			for _, left := range []string{"\x00", "\x01", "\x80", "\xff\xff\xff\xff\xff\xff", text(name)} {
				inside(t, text(name)+text(body)+left, api.ErrForm)
			}
			inside(t, reply(name, body), api.ErrForm) // sealed twice
		}
	}
	inside(t, "\x01A\x00\x00", api.ErrForm)
	inside(t, "\x01a\x00"+strings.Repeat("\x00", 1<<20), api.ErrForm)
	// a name that may not be, and behind it something that is wrong
	inside(t, "\x01A", api.ErrShort)
	inside(t, "\x01A\x02x", api.ErrShort)
	inside(t, "\x01A\xc0\x01", api.ErrLong)
	inside(t, "\x00\xff\xff\xff\xff\xff\xff", api.ErrLong)
	inside(t, "\x00\x81", api.ErrShort)
	// two things that are wrong: the left one
	inside(t, "\x19\x80", api.ErrLong)
	inside(t, "\x80\x19", api.ErrForm)
	inside(t, "\x02a", api.ErrShort)
	inside(t, "\x04a\xc0\x01", api.ErrShort) // not the body's count, which is too long
	inside(t, "\x01a\xc0\x01\x80", api.ErrLong)
}

// P11.3: each other byte, at each place of a reply.
func TestOneByteThatIsAnotherOne(t *testing.T) {
	for _, b := range []string{
		string(seal.Pack("a", nil)), string(seal.Pack("ω", []byte("\x00"))), string(seal.Pack("α-1", []byte("xyz"))), string(seal.Pack("abcdefghijkl", []byte(strings.Repeat("\x00", 40)))),
		string(seal.Pack("b", []byte(strings.Repeat("x", 130)))), string(seal.Pack("a", seal.Pack("a", []byte("\x01a\x00")))),
	} {
		if !opens(t, b) {
			t.Fatalf("%q is not opened", b)
		}
		for at := range len(b) {
			for x := 1; x < 256; x++ {
				tells(t, b[:at]+string([]byte{b[at] ^ byte(x)})+b[at+1:], api.ErrSum)
			}
		}
	}
}

// P11.3: in the longest reply that there is.
func TestOneByteOfManyThatIsAnotherOne(t *testing.T) {
	b := seal.Pack("αβγδεζηθικλμ", []byte(strings.Repeat("manifest", 1024)))
	if len(b) != 1+24+2+8192+4 {
		t.Fatalf("the longest reply has %d bytes", len(b))
	}
	for at := range b {
		if at > 40 && at%89 != 0 && at < len(b)-8 {
			continue
		}
		for _, x := range []byte{1, 127, 128, 255} {
			b[at] ^= x
			tells(t, string(b), api.ErrSum)
			b[at] ^= x
		}
	}
	if !opens(t, string(b)) {
		t.Error("it is not opened when it is mended")
	}
}

// all tells each text of up to some bytes out of letters.
func all(letters string, size int, each func(s string)) {
	each("")
	for last := []string{""}; size > 0; size-- {
		var next []string
		for _, s := range last {
			for i := range len(letters) {
				next = append(next, s+letters[i:i+1])
				each(s + letters[i:i+1])
			}
		}
		last = next
	}
}

// P11.2: all bytes that go on in some ways, sealed.
func TestOpenOfAllBytes(t *testing.T) {
	for _, c := range []struct {
		ahead, letters string
		size, some     int
	}{
		{"", "\x00\x01\x02\x03ab\x80\x81", 6, 100},
		{"", "\x01\x02\x03\x04\xce\xb1\x89-", 6, 50},
		{"\x01a", "\x00\x01\x02\x05A\x80\x81\xff", 6, 500},
		{"\x02a", "\x00\x01\x02-9\x7f\x80\xce", 6, 50},
		{"\x01a\x81", "\x00\x01\x02\x7f\x80\xc0", 7, 0},
	} {
		some := 0
		all(c.letters, c.size, func(s string) {
			if opens(t, sealed(c.ahead+s)) {
				some++
			}
		})
		if some < c.some {
			t.Errorf("behind %q only %d replies are opened", c.ahead, some)
		}
	}
}

// P11.2: the inner bytes of replies, cut, and with a byte that is another one, that is gone, or that came, sealed anew.
func TestOpenOfSpoiltBytesThatAreSealed(t *testing.T) {
	for _, name := range names() {
		for _, body := range bodies() {
			if len(body) > 60 {
				continue
			}
			b := text(name) + text(body)
			if !opens(t, sealed(b)) {
				t.Fatalf("%q is not opened", b)
			}
			for at := range len(b) {
				if opens(t, sealed(b[:at])) {
					t.Fatalf("%q is opened", b[:at])
				}
				opens(t, sealed(b[at:]))
				opens(t, sealed(b[:at]+b[at+1:]))
				for i := range 256 {
					opens(t, sealed(b[:at]+string([]byte{byte(i)})+b[at+1:]))
					opens(t, sealed(b[:at]+string([]byte{byte(i)})+b[at:]))
				}
			}
		}
	}
}
