package seal_test

import (
	"strings"
	"testing"
	"unsafe"

	"comprador/api"
	"comprador/seal"
)

const behind = "what lies behind"

// P11.1, 0.5, 0.8: what is given to Pack is not changed, nor read or written behind its length, nor kept.
func TestPackLeavesTheBody(t *testing.T) {
	for _, name := range []string{"a", "αβγδεζηθικλμ", "A", ""} {
		for _, body := range append(bodies(), strings.Repeat("x", 8193)) {
			want := string(seal.Pack(name, []byte(body)))
			whole := []byte(body + behind)
			got := seal.Pack(name, whole[:len(body)])
			if string(whole) != body+behind {
				t.Fatalf("Pack(%q, %.40q) made %.60q of what was given", name, body, whole)
			}
			for i := range whole {
				whole[i] ^= 255
			}
			if string(got) != want {
				t.Fatalf("Pack(%q, %.40q) = %.60q, not %.60q", name, body, got, want)
			}
		}
	}
}

// spoil writes into all memory of a list of bytes.
func spoil(b []byte) {
	for i := range b[:cap(b)] {
		b[:cap(b)][i] ^= 255
	}
}

// 0.5: what is packed is new memory, each time.
func TestPackIsNew(t *testing.T) {
	for _, body := range bodies() {
		given := []byte(body)
		first, second := seal.Pack("a", given), seal.Pack("a", given)
		spoil(first)
		if string(given) != body || string(second) != reply("a", body) || string(seal.Pack("a", given)) != reply("a", body) {
			t.Fatalf("two calls of Pack(a, %.40q) share memory", body)
		}
	}
}

// P11.2, 0.5, 0.8: what is given to Open is not changed, nor read or written behind its length, nor kept.
func TestOpenLeavesTheBytes(t *testing.T) {
	for _, body := range bodies() {
		b := reply("abc", body)
		for _, size := range []int{len(b), len(b) - 1, len(b) / 2, 0} {
			whole := []byte(b + behind)
			name, got, e := seal.Open(whole[:size])
			if string(whole) != b+behind {
				t.Fatalf("Open(%.60q) made %.60q of what was given", b[:size], whole)
			}
			spoil(whole)
			wantName, want, also := openOther(b[:size])
			if name != wantName || string(got) != want || e != also {
				t.Fatalf("Open(%.60q) = %q, %.40q, %d, not %q, %.40q, %d", b[:size], name, got, e, wantName, want, also)
			}
		}
	}
}

// 0.5: what is opened is new memory, each time, and no two of its parts share any.
func TestOpenIsNew(t *testing.T) {
	for _, body := range bodies() {
		b := []byte(reply("abc", body))
		name, first, _ := seal.Open(b)
		also, second, _ := seal.Open(b)
		spoil(first)
		if name != "abc" || also != "abc" || string(second) != body || string(b) != reply("abc", body) {
			t.Fatalf("of a reply with %.40q parts share memory", body)
		}
	}
}

// 0.5: the name, too, is new.
func TestOpenNamesAreNew(t *testing.T) {
	b := seal.Pack("abcdefg", []byte("body"))
	name, body, _ := seal.Open(b)
	at := uintptr(unsafe.Pointer(unsafe.StringData(name)))
	for _, l := range [][]byte{b, body} {
		from := uintptr(unsafe.Pointer(unsafe.SliceData(l)))
		if at >= from && at < from+uintptr(cap(l)) {
			t.Errorf("%q is in the memory of %q", name, l)
		}
	}
	if name != "abcdefg" {
		t.Errorf("the name is %q", name)
	}
}

// 0.8: an empty body is none.
func TestOpenOfNoBodyIsNil(t *testing.T) {
	for _, name := range names() {
		for _, body := range [][]byte{nil, {}} {
			if got, l, e := seal.Open(seal.Pack(name, body)); got != name || l != nil || e != api.OK {
				t.Errorf("Open(Pack(%q, none)) = %q, %#v, %d", name, got, l, e)
			}
		}
	}
}

// 0.1: no call panics, or goes on for ever, at any bytes, sealed or not.
func TestAnyBytes(t *testing.T) {
	for i := range 256 {
		for j := range 256 {
			s := string([]byte{byte(i), byte(j)})
			for _, b := range []string{s, s + "\x00\x00\x00", "\x01a" + s, strings.Repeat(s, 40)} {
				opens(t, b)
				opens(t, sealed(b))
			}
		}
		for _, size := range []int{8192, 1 << 18} {
			b := strings.Repeat(string([]byte{byte(i)}), size)
			opens(t, b)
			opens(t, sealed(b))
		}
	}
}
