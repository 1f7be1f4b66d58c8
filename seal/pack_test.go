package seal_test

import (
	"hash/fnv"
	"strings"
	"testing"

	"comprador/api"
	"comprador/label"
	"comprador/seal"
)

// num is a number's bytes, put without the package that puts them.
func num(n int) string {
	s := string([]byte{byte(n % 128)})
	for n /= 128; n > 0; n /= 128 {
		s = string([]byte{byte(128 + n%128)}) + s
	}
	return s
}

// text is a text's bytes.
func text(s string) string {
	return num(len(s)) + s
}

// sealed is bytes and their stamp, which the library sums.
func sealed(s string) string {
	h := fnv.New32a()
	h.Write([]byte(s))
	return string(h.Sum([]byte(s)))
}

// reply is a reply's bytes, whether its name and its body may be or not.
func reply(name, body string) string {
	return sealed(text(name) + text(body))
}

// names are names that may be.
func names() []string {
	return []string{
		"a", "b", "z", "α", "ω", "ab", "a1", "a-", "a-1", "z0-9", "aα", "αa", "α-1", "a--", "abc",
		"abcdefghijk", "abcdefghijkl", "a-0123456789", "αβγδεζηθικλ", "αβγδεζηθικλμ", "aβcδeζgθiκlμ", strings.Repeat("ω", 12),
	}
}

// noNames are names that may not be.
func noNames() []string {
	return []string{
		"", " ", "A", "1", "-", "1a", "-a", "a b", "a ", " a", "a_", "a.b", "a\x00", "\x00", "aB", "Ω", "ΰ", "ϊ", "aϊ", "é", "\xce", "a\xce", "\xff", "a\xff", "\xb1", "a\xef\xbf\xbd",
		"abcdefghijklm", "αβγδεζηθικλμν", "αβγδεζηθικλμa", strings.Repeat("a", 13), strings.Repeat("a", 24), strings.Repeat("a", 25), strings.Repeat("ω", 13), strings.Repeat("a", 9000),
	}
}

// bodies are bodies that have at most MaxBody bytes.
func bodies() []string {
	every := make([]byte, 256)
	for i := range every {
		every[i] = byte(i)
	}
	return []string{
		"", "\x00", "\x01", "\x7f", "\x80", "\xff", "a", "ab", "\x01a\x00", "\x00\x00\x00\x00", "\x81\x1c\x9d\xc5", "é, which has two bytes",
		reply("a", ""), reply("b", "what is sealed is sealed again"), string(every),
		strings.Repeat("x", 126), strings.Repeat("x", 127), strings.Repeat("x", 128), strings.Repeat("x", 129), strings.Repeat("\x80", 300),
		strings.Repeat("manifest", 1023), strings.Repeat("y", 8191), strings.Repeat("y", 8192), strings.Repeat("\x00", 8192), strings.Repeat("\xff", 8192),
	}
}

// P11.1, the chapter's example beside others, by hand.
func TestPack(t *testing.T) {
	for _, c := range []struct{ name, body, want string }{
		{"a", "", "\x01a\x00\x72\xba\xa6\x35"},
		{"a", "\x01a\x00", "\x01a\x03\x01a\x00\xb0\x93\xef\x16"},
		{"α-1", "xyz", "\x04\xce\xb1-1\x03xyz\x10\x10\xad\xe0"},
		{"b", "\x00\xff\x80", "\x01b\x03\x00\xff\x80\x8d\xe4\x77\xde"},
	} {
		if got := string(seal.Pack(c.name, []byte(c.body))); got != c.want {
			t.Errorf("Pack(%q, %q) = %q, not %q", c.name, c.body, got, c.want)
		}
	}
	if got := string(seal.Pack("a", nil)); got != "\x01a\x00\x72\xba\xa6\x35" {
		t.Errorf("Pack(a, nil) = %q", got)
	}
}

// P11.1: against a second way to put them.
func TestPackOfMany(t *testing.T) {
	for _, name := range names() {
		if !label.Fit(name) {
			t.Errorf("%q may not be", name)
		}
		for _, body := range bodies() {
			if got, want := string(seal.Pack(name, []byte(body))), reply(name, body); got != want {
				t.Errorf("Pack(%q, %.40q), of %d bytes, = %.60q, not %.60q", name, body, len(body), got, want)
			}
		}
	}
}

// P11.1: a body of each size, up to the bound and above.
func TestPackOfEachSize(t *testing.T) {
	whole := strings.Repeat("0123456789abcdef\x00\x80\xff", 500)
	for size := range 8400 {
		body := whole[:size]
		got := seal.Pack("a", []byte(body))
		if size > 8192 {
			if got != nil {
				t.Fatalf("Pack of a body of %d bytes has %d", size, len(got))
			}
			continue
		}
		if string(got) != reply("a", body) {
			t.Fatalf("Pack of a body of %d bytes has %d", size, len(got))
		}
	}
	for _, size := range []int{8193, 16384, 1 << 20} {
		for _, name := range names() {
			if got := seal.Pack(name, make([]byte, size)); got != nil {
				t.Errorf("Pack(%q, %d bytes) has %d", name, size, len(got))
			}
		}
	}
}

// P11.1
func TestPackOfNamesThatMayNotBe(t *testing.T) {
	for _, name := range noNames() {
		if label.Fit(name) {
			t.Errorf("%q may be", name)
		}
		for _, body := range append(bodies(), strings.Repeat("x", 8193)) {
			if got := seal.Pack(name, []byte(body)); got != nil {
				t.Errorf("Pack(%.40q, %.40q) = %.40q", name, body, got)
			}
		}
		if got := seal.Pack(name, nil); got != nil {
			t.Errorf("Pack(%.40q, nil) = %.40q", name, got)
		}
	}
}

// P11.3: it is opened, and no two replies have the same bytes.
func TestPackIsOpened(t *testing.T) {
	type pair struct{ name, body string }
	of := map[string]pair{}
	for _, name := range names() {
		for _, body := range bodies() {
			b := seal.Pack(name, []byte(body))
			got, inner, e := seal.Open(b)
			if got != name || string(inner) != body || e != api.OK {
				t.Errorf("Open(Pack(%q, %.40q)) = %q, %.40q, %d", name, body, got, inner, e)
			}
			if as, is := of[string(b)]; is {
				t.Errorf("Pack(%q, %.40q) is that of %q, %.40q", name, body, as.name, as.body)
			}
			of[string(b)] = pair{name, body}
		}
	}
	if len(of) != len(names())*len(bodies()) {
		t.Errorf("there are %d replies", len(of))
	}
}

// The limits that the chapter and DOC.md name.
func TestLimits(t *testing.T) {
	if api.MaxBody != 8192 || api.MaxBytes != 24 || api.MaxName != 12 {
		t.Errorf("the limits are %d, %d, %d", api.MaxBody, api.MaxBytes, api.MaxName)
	}
}
