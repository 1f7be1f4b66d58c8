package stamp_test

import (
	"strings"
	"testing"

	"comprador/stamp"
)

// shut tells whether bytes are not opened, and nothing is told beside it.
func shut(t *testing.T, b string) {
	t.Helper()
	if got, ok := stamp.Open([]byte(b)); ok || got != nil {
		t.Errorf("Open(%.40q), of %d bytes, = %.40q, %v", b, len(b), got, ok)
	}
}

// P2.2
func TestSeal(t *testing.T) {
	for _, c := range []struct{ b, want string }{
		{"", "\x81\x1c\x9d\xc5"},
		{"a", "a\xe4\x0c\x29\x2c"}, // the highest one first
		{"\x00", "\x00\x05\x0c\x5d\x1f"},
		{"foobar", "foobar\xbf\x9c\xf9\x68"},
		{"\x81\x1c\x9d\xc5", "\x81\x1c\x9d\xc5\xab\x1b\x1c\xd6"}, // what is sealed is sealed again
	} {
		if got := string(stamp.Seal([]byte(c.b))); got != c.want {
			t.Errorf("Seal(%q) = %q, not %q", c.b, got, c.want)
		}
	}
	if got := string(stamp.Seal(nil)); got != "\x81\x1c\x9d\xc5" {
		t.Errorf("Seal(nil) = %q", got)
	}
}

// P2.2
func TestSealIsTheBytesAndTheirStamp(t *testing.T) {
	for _, b := range samples() {
		got := string(stamp.Seal([]byte(b)))
		if len(got) != len(b)+4 || got[:len(b)] != b {
			t.Fatalf("Seal(%.20q) has %d bytes", b, len(got))
		}
		n := uint32(0)
		for _, c := range []byte(got[len(b):]) {
			n = n*256 + uint32(c)
		}
		if n != plainly(2166136261, b) {
			t.Errorf("behind %.20q, of %d bytes, stands %d", b, len(b), n)
		}
	}
}

// P2.2
func TestOpenOfWhatIsSealed(t *testing.T) {
	for _, b := range samples() {
		if got, ok := stamp.Open(stamp.Seal([]byte(b))); !ok || string(got) != b {
			t.Errorf("Open of Seal of %.20q, of %d bytes, = %.20q, %v", b, len(b), got, ok)
		}
		twice := stamp.Seal(stamp.Seal([]byte(b)))
		if got, ok := stamp.Open(twice); !ok || string(got) != string(stamp.Seal([]byte(b))) {
			t.Errorf("%.20q, sealed twice, is opened once: %.20q, %v", b, got, ok)
		}
	}
	if got, ok := stamp.Open([]byte("a\xe4\x0c\x29\x2c")); !ok || string(got) != "a" {
		t.Errorf("Open of a, sealed by hand, = %q, %v", got, ok)
	}
}

// P2.2, 0.3
func TestOpenOfFewBytes(t *testing.T) {
	if got, ok := stamp.Open(nil); ok || got != nil {
		t.Errorf("Open(nil) = %q, %v", got, ok)
	}
	shut(t, "")
	for n := range 4 { // cuts of no bytes, sealed, and of others
		shut(t, "\x81\x1c\x9d\xc5"[:n])
		shut(t, "\x81\x1c\x9d\xc5"[4-n:])
		shut(t, "abc"[:n])
		shut(t, "\x00\x00\x00"[:n])
	}
}

// P2.2, 0.3
func TestOpenOfFourBytes(t *testing.T) {
	if got, ok := stamp.Open([]byte("\x81\x1c\x9d\xc5")); !ok || len(got) != 0 {
		t.Errorf("Open of no bytes, sealed, = %q, %v", got, ok)
	}
	for _, b := range []string{
		"\x00\x00\x00\x00", "\xff\xff\xff\xff", "abcd",
		"\xc5\x9d\x1c\x81", // the lowest one first
		"\x81\x1c\x9d\xc4", "\x80\x1c\x9d\xc5", "\x81\x1c\x9e\xc5", "\x81\x1d\x9d\xc5",
	} {
		shut(t, b)
	}
}

// P2.2, 0.3: the last four are not the stamp of those ahead.
func TestOpenOfWhatIsNotSealed(t *testing.T) {
	for _, b := range samples() {
		sealed := string(stamp.Seal([]byte(b)))
		n := len(b)
		shut(t, b+"\x00\x00\x00\x00")
		shut(t, b+sealed[n+3:]+sealed[n+2:n+3]+sealed[n+1:n+2]+sealed[n:n+1]) // the lowest one first
		shut(t, sealed[n:]+"a"+b)
		shut(t, sealed+"\x00")
		shut(t, "\x00"+sealed)
		shut(t, sealed[:n+3])
		shut(t, sealed[1:])
	}
}

// P2.4: each other byte, at each place of the bytes and of their stamp.
func TestOneByteThatIsAnotherOne(t *testing.T) {
	for _, b := range []string{"", "\x00", "a", "ab", "\xff\xff\xff\xff", "a name, and a body", strings.Repeat("\x00", 40)} {
		sealed := stamp.Seal([]byte(b))
		for i, c := range sealed {
			for x := 1; x < 256; x++ {
				sealed[i] = c ^ byte(x)
				shut(t, string(sealed))
			}
			sealed[i] = c
		}
		if got, ok := stamp.Open(sealed); !ok || string(got) != b {
			t.Errorf("%q is not opened when it is mended", b)
		}
	}
}

// P2.4: in bytes as long as replies get.
func TestOneByteOfManyThatIsAnotherOne(t *testing.T) {
	sealed := stamp.Seal([]byte(strings.Repeat("manifest", 1100)))
	for i := 0; i < len(sealed); i++ {
		if i%97 != 0 && i < len(sealed)-8 {
			continue
		}
		for _, x := range []byte{1, 128, 255} {
			sealed[i] ^= x
			shut(t, string(sealed))
			sealed[i] ^= x
		}
	}
}

// P2.2, 0.5, 0.8: what is handed in stays as it was, and what lies behind its length, too; what is answered is new memory.
func TestSealAndOpenLeaveWhatTheyAreGiven(t *testing.T) {
	sealed := string(stamp.Seal([]byte("abc")))
	for name, c := range map[string]struct {
		given, want string
		call        func(b []byte) []byte
	}{
		"Seal":             {"abc", sealed, stamp.Seal},
		"Seal of no bytes": {"", "\x81\x1c\x9d\xc5", stamp.Seal},
		"Open":             {sealed, "abc", opened},
		"Open of no bytes": {"\x81\x1c\x9d\xc5", "", opened},
		"Open of others":   {"abcdefg", "", opened},
	} {
		const behind = "what lies behind"
		whole := []byte(c.given + behind)
		given := whole[:len(c.given)]
		first, second := c.call(given), c.call(given)
		if string(first) != c.want || string(second) != c.want {
			t.Errorf("%s: %q, and %q, not %q", name, first, second, c.want)
		}
		first = append(first, "more"...)
		for i := range first {
			first[i] ^= 255
		}
		if string(whole) != c.given+behind || string(second) != c.want {
			t.Errorf("%s: what is answered shares memory: %q, %q", name, whole, second)
		}
		for i := range whole {
			whole[i] ^= 255
		}
		if string(second) != c.want {
			t.Errorf("%s: what is answered hangs on what was given", name)
		}
	}
}

func opened(b []byte) []byte {
	l, _ := stamp.Open(b)
	return l
}
