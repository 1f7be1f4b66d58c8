package proof_test

import (
	"slices"
	"strings"
	"testing"

	"comprador/api"
	"comprador/proof"
)

// wrong is an error by which a cutter stops at once.
type wrong api.Errno

// cutter is another way to read: by what is left, and without a reader.
type cutter struct{ left string }

func (c *cutter) num(most int) int {
	end := slices.IndexFunc([]byte(c.left), func(b byte) bool { return b < 128 })
	switch {
	case c.left == "":
		panic(wrong(api.ErrShort))
	case c.left[0] == 128:
		panic(wrong(api.ErrForm))
	case end >= 6 || end < 0 && len(c.left) >= 6:
		panic(wrong(api.ErrLong))
	case end < 0:
		panic(wrong(api.ErrShort))
	}
	n := 0
	for i := range end + 1 {
		n = 128*n + int(c.left[i])%128
	}
	if n > 1<<40 || n > most {
		panic(wrong(api.ErrLong))
	}
	c.left = c.left[end+1:]
	return n
}

func (c *cutter) str() string {
	n := c.num(24)
	if n > len(c.left) {
		panic(wrong(api.ErrShort))
	}
	s := c.left[:n]
	c.left = c.left[n:]
	return s
}

// readOther is Read, in another way.
func readOther(b string) (l []api.Step, e api.Errno) {
	defer func() {
		if w := recover(); w != nil {
			l, e = nil, api.Errno(w.(wrong))
		}
	}()
	c := &cutter{left: b}
	for i := c.num(1 << 20); i > 0; i-- {
		s := api.Step{Kind: c.num(4)}
		s.Name = c.str()
		if s.Kind == 3 {
			s.Ver = c.num(1000000000)
			s.To = c.str()
		}
		if s.Kind == 4 {
			s.A = c.num(1 << 20)
			s.B = c.num(1 << 20)
		}
		l = append(l, s)
	}
	fit := len(l) > 0 && c.left == ""
	for i, s := range l {
		fit = fit && mayBeStep(s, i)
	}
	if !fit {
		panic(wrong(api.ErrForm))
	}
	return l, api.OK
}

// reads fails, if bytes are read otherwise than in the other way; it tells whether they are a proof's.
func reads(t *testing.T, b string) bool {
	t.Helper()
	got, e := proof.Read([]byte(b))
	want, also := readOther(b)
	if !alike(got, want) || e != also || e != api.OK && got != nil {
		t.Fatalf("Read(%.300q) = %s, %d, not %s, %d", b, brief(got), e, brief(want), also)
	}
	if e != api.OK {
		return false
	}
	// P21.3: what is read is put so.
	if again := string(proof.Put(got)); again != b || !proof.Check(got) {
		t.Fatalf("Read(%.300q) = %s, which is put as %.300q", b, brief(got), again)
	}
	return true
}

// P21.2, by hand.
func TestRead(t *testing.T) {
	for _, c := range byHand {
		if got, e := proof.Read([]byte(c.want)); !alike(got, toProof(c.l)) || e != api.OK {
			t.Errorf("Read(%q) = %s, %d, not %s", c.want, brief(got), e, c.l)
		}
		reads(t, c.want)
	}
}

// tells fails, if bytes have another error than that one, or something else is told beside it.
func tells(t *testing.T, b string, want api.Errno) {
	t.Helper()
	if got, e := proof.Read([]byte(b)); e != want || got != nil {
		t.Errorf("Read(%.300q) = %s, %d, not %d", b, brief(got), e, want)
	}
}

// places are where numbers stand: what is ahead of each, and what it is at most.
var places = []struct {
	ahead string
	most  int
}{
	{"", most},
	{"\x01", 4},
	{"\x01\x00", 24},
	{"\x01\x01", 24},
	{"\x01\x02", 24},
	{"\x01\x03", 24},
	{"\x01\x04", 24},
	{"\x01\x03\x01a", top},
	{"\x01\x03\x01a\x05", 24},
	{"\x01\x04\x01a", most},
	{"\x01\x04\x01a\x05", most},
	// behind others
	{"\x02\x00\x01a", 4},
	{"\x02\x01\x01a", 4},
	{"\x02\x02\x01a\x01", 24},
	{"\x03\x01\x01a\x03\x01b\x05\x01c", 4},
	{"\x03\x01\x01a\x03\x01b\x05\x01c\x04\x01d", most},
	{"\x03\x01\x01a\x03\x01b\x05\x01c\x04\x01d\x00", most},
	{"\x03\x01\x01a\x04\x01b\x00\x00", 4},
	{"\x03\x01\x01a\x04\x01b\x00\x00\x03\x01c", top},
}

// P21.2: Num's errors, at each place where a number stands, whatever is behind it.
func TestReadOfWrongNumbers(t *testing.T) {
	for _, p := range places {
		tells(t, p.ahead, api.ErrShort)
		for _, cut := range []string{"\x81", "\xff", "\x81\x80", "\xff\xff\xff\xff", "\x81\x80\x80\x80\x80", "\xff\xff\xff\xff\xff"} {
			tells(t, p.ahead+cut, api.ErrShort)
		}
		for _, behind := range []string{"", "\x00", "\x01a\x00", "\x80", "\x81\x80\x80\x80\x80\x80\x80", strings.Repeat("\x01", 100)} {
			tells(t, p.ahead+"\x80"+behind, api.ErrForm)
			for _, long := range []string{"\x81\x80\x80\x80\x80\x80", "\xff\xff\xff\xff\xff\xff", num(1<<40 + 1), num(1 << 40), num(p.most + 1), num(p.most + 128)} {
				tells(t, p.ahead+long+behind, api.ErrLong)
			}
		}
	}
}

// P21.2: a number that is as great as it may be is no error of its own.
func TestReadOfGreatestNumbers(t *testing.T) {
	for _, p := range places {
		b := p.ahead + num(p.most)
		if p.most == most && p.ahead != "" { // the last number of a step, or that ahead of it
			continue
		}
		tells(t, b, api.ErrShort)
	}
	const join = "\x02\x01\x01a\x04\x01a"
	for _, n := range []int{1, 2, 127, 128, 16384, most - 1, most} {
		tells(t, join+"\x00"+num(n), api.ErrForm)
		tells(t, join+num(n)+"\x00", api.ErrForm)
		tells(t, join+num(n)+num(n), api.ErrForm)
		tells(t, join+num(n), api.ErrShort)
	}
	tells(t, join+"\x00"+num(most+1), api.ErrLong)
	tells(t, join+num(most+1), api.ErrLong)
	const need = "\x01\x03\x01a"
	tells(t, need+num(top)+"\x01b", api.ErrForm)
	tells(t, need+num(top+1)+"\x01b", api.ErrLong)
	for _, n := range []int{0, 1, 127, 128, top - 1} {
		if !reads(t, need+num(n)+"\x01b") {
			t.Errorf("the version %d is not read", n)
		}
	}
}

// P21.2: how many bytes a name has at most, wherever it stands.
func TestReadOfNames(t *testing.T) {
	for size := range 40 {
		for _, name := range []string{strings.Repeat("a", size), strings.Repeat("ω", size/2) + strings.Repeat("b", size%2)} {
			want := api.OK
			switch {
			case size > 24:
				want = api.ErrLong
			case len([]rune(name)) > 12 || size == 0:
				want = api.ErrForm
			}
			for _, c := range [][2]string{{"\x01\x01", ""}, {"\x01\x02", ""}, {"\x01\x03", "\x05\x01b"}, {"\x01\x03\x01a\x05", ""}, {"\x02\x01\x01a\x04", "\x00\x00"}} {
				b := c[0] + text(name) + c[1]
				if want != api.OK {
					tells(t, b, want)
				} else if !reads(t, b) {
					t.Errorf("%q is not read", b)
				}
				// a text that is cut: the count's error is ahead
				if size > 24 {
					tells(t, c[0]+num(size), api.ErrLong)
				} else if size > 0 {
					tells(t, c[0]+text(name)[:size], api.ErrShort)
				}
			}
		}
	}
	for _, name := range noNames() {
		if len(name) <= 24 {
			tells(t, "\x01\x01"+text(name), api.ErrForm)
			tells(t, "\x01\x03\x01a\x05"+text(name), api.ErrForm)
			tells(t, "\x02\x01"+text(name)+"\x01\x01a", api.ErrForm)
		}
	}
}

// P21.2: how many steps there are at most; of more it is told at once, and of fewer than the count tells where they end.
func TestReadOfCounts(t *testing.T) {
	tells(t, num(most+1), api.ErrLong)
	tells(t, num(most+1)+strings.Repeat("\x01\x01a", 100), api.ErrLong)
	const step = "\x01\x01a"
	for _, n := range []int{1, 2, 3, 127, 128, 129, 300} {
		if !reads(t, num(n)+strings.Repeat(step, n)) {
			t.Errorf("%d steps are not read", n)
		}
		tells(t, num(n)+strings.Repeat(step, n-1), api.ErrShort)
		tells(t, num(n)+strings.Repeat(step, n+1), api.ErrForm)
		tells(t, num(n-1)+strings.Repeat(step, n), api.ErrForm)
	}
	for range 1000 {
		tells(t, num(most), api.ErrShort)
		tells(t, num(most)+step, api.ErrShort)
		tells(t, num(most)+step+"\x05", api.ErrLong)
	}
}

// P21.2: bytes that are left, and proofs that may not be, are told at the end; what is wrong ahead of it is first.
func TestReadAtTheEnd(t *testing.T) {
	for _, l := range mayBe() {
		b := bytesOf(l)
		for _, left := range []string{"\x00", "\x01", "\x80", "\xff\xff\xff\xff\xff\xff", "\x01\x01a", b} {
			tells(t, b+left, api.ErrForm)
		}
	}
	for _, c := range []string{
		"\x00", "\x01\x00\x00", "\x01\x00\x01a", "\x02\x00\x01a\x01\x01a", "\x02\x01\x01a\x00\x01a", "\x01\x01\x00", "\x01\x01\x01A", "\x01\x02\x01\xff",
		"\x01\x03\x01a\x05\x00", "\x01\x03\x00\x05\x01b", "\x01\x03\x01a\x05\x01B", "\x01\x03\x01a\x83\xdc\xeb\x94\x00\x01b",
		"\x01\x04\x01a\x00\x00", "\x02\x04\x01a\x00\x00\x01\x01a", "\x02\x01\x01a\x04\x01a\x00\x01", "\x02\x01\x01a\x04\x01a\x01\x00", "\x02\x01\x01a\x04\x01A\x00\x00", "\x03\x01\x01a\x04\x01a\x02\x02\x01\x01b",
	} {
		tells(t, c, api.ErrForm)
		tells(t, c+"\x00", api.ErrForm)
		// where it is cut nothing is told of what may not be
		for size := range len(c) {
			tells(t, c[:size], api.ErrShort)
		}
	}
	// something that may not be, and behind it something that is wrong
	tells(t, "\x02\x00\x01a\x05", api.ErrLong)
	tells(t, "\x02\x01\x01A\x01", api.ErrShort)
	tells(t, "\x01\x00\x19", api.ErrLong)
	tells(t, "\x01\x03\x00\x05\x19", api.ErrLong)
	tells(t, "\x01\x04\x01a\x00\x80", api.ErrForm)
	tells(t, "\x02\x04\x01a\x00\x00\x05", api.ErrLong)
	// two things that are wrong: the left one
	tells(t, "\x01\x05\x80", api.ErrLong)
	tells(t, "\x01\x80\x05", api.ErrForm)
	tells(t, "\x01\x01\x19\x80", api.ErrLong)
	tells(t, "\x01\x03\x01a\x80\x19", api.ErrForm)
	tells(t, "\x01\x03\x01a\x05\x19\x80", api.ErrLong)
	tells(t, "\x01\x04\x01a"+num(most+1)+"\x80", api.ErrLong)
	tells(t, "\x01\x04\x01a\x80"+num(most+1), api.ErrForm)
	tells(t, "\x02\x05\x01a\x80", api.ErrLong)
}

// all tells each text of up to some bytes out of letters.
func all(letters string, size int, each func(s string)) {
	each("")
	for last := []string{""}; size > 0; size-- {
		var next []string
		for _, s := range last {
			for i := range len(letters) {
				next = append(next, s+letters[i:i+1])
				each(s + letters[i:i+1])
			}
		}
		last = next
	}
}

// P21.2, P21.3: all bytes that go on in some ways.
func TestReadOfAllBytes(t *testing.T) {
	for _, c := range []struct {
		ahead, letters string
		size, some     int
	}{
		{"", "\x00\x01\x02\x03ab\x80\x81", 6, 8},
		{"\x02\x01\x01a", "\x00\x01\x02\x03\x04b\x80", 6, 8},
		{"\x02\x02\x01a\x04\x01b", "\x00\x01\x02\x03a\x80\xff", 6, 1},
		{"\x03\x02\x01a\x01\x01b\x04\x01c", "\x00\x01\x02\x03a\x80\x81", 6, 4},
		{"\x01\x03\x01a", "\x00\x01\x02b\x7f\x80\x81", 6, 60},
		{"\x02\x03\x01a\x05\x01b\x04", "\x00\x01\x02a\x81\xc0", 6, 2},
		{"\x01\x03\x01a", "\x00\x01\x83\xdc\xeb\x94b", 6, 20},
	} {
		some := 0
		all(c.letters, c.size, func(s string) {
			if reads(t, c.ahead+s) {
				some++
			}
		})
		if some < c.some {
			t.Errorf("behind %q only %d proofs are read", c.ahead, some)
		}
	}
}

// P21.2, P21.3: proofs' bytes that are cut, or of which a byte is another one, gone, or come.
func TestReadOfSpoiltBytes(t *testing.T) {
	proofs := mayBe()
	draw := drawer(214)
	for range 20 {
		proofs = append(proofs, drawn(draw, 1+draw(20), 1+draw(9)))
	}
	other := []byte{0, 1, 2, 3, 4, 5, 24, 25, 'a', 'z', 127, 128, 129, 206, 255}
	for _, l := range proofs {
		b := bytesOf(l)
		if !reads(t, b) {
			t.Fatalf("%s is not read", brief(l))
		}
		if len(b) > 200 {
			continue
		}
		for i := range len(b) {
			reads(t, b[:i])
			reads(t, b[:i]+b[i+1:])
			for _, c := range other {
				reads(t, b[:i]+string([]byte{c})+b[i+1:])
				reads(t, b[:i]+string([]byte{c})+b[i:])
			}
			for bit := range 8 {
				reads(t, b[:i]+string([]byte{b[i] ^ 1<<bit})+b[i+1:])
			}
		}
	}
}
