package proof_test

import (
	"testing"

	"comprador/api"
	"comprador/proof"
)

// byHand are proofs, and their bytes.
var byHand = []struct{ l, want string }{
	{"asked a", "\x01\x01\x01a"},
	{"released α-1", "\x01\x02\x04\xce\xb1-1"},
	{"needed a 0 b", "\x01\x03\x01a\x00\x01b"},
	{"needed ab 300 cde", "\x01\x03\x02ab\x82\x2c\x03cde"},
	{"needed a 999999999 ω", "\x01\x03\x01a\x83\xdc\xeb\x93\x7f\x02\xcf\x89"},
	{"asked a; joined b 0 0", "\x02\x01\x01a\x04\x01b\x00\x00"},
	{"asked a; released a; joined a 0 1", "\x03\x01\x01a\x02\x01a\x04\x01a\x00\x01"},
	// A ahead of B
	{"asked a; released a; joined a 1 0", "\x03\x01\x01a\x02\x01a\x04\x01a\x01\x00"},
	// not trimmed
	{"asked a; released b; released a; joined a 0 2", "\x04\x01\x01a\x02\x01b\x02\x01a\x04\x01a\x00\x02"},
	{"asked a; needed b 128 c; released cc; joined c 1 2; joined d 0 3; asked e", "\x06\x01\x01a\x03\x01b\x81\x00\x01c\x02\x02cc\x04\x01c\x01\x02\x04\x01d\x00\x03\x01\x01e"},
}

// P21.2, by hand.
func TestPut(t *testing.T) {
	for _, c := range byHand {
		if got := string(proof.Put(toProof(c.l))); got != c.want {
			t.Errorf("Put(%s) = %q, not %q", c.l, got, c.want)
		}
	}
}

// P21.2: against a second way to put them.
func TestPutOfMany(t *testing.T) {
	puts := func(l []api.Step) {
		t.Helper()
		if got, want := string(proof.Put(l)), bytesOf(l); got != want {
			t.Fatalf("Put(%s) = %q, not %q", brief(l), got, want)
		}
	}
	for _, l := range mayBe() {
		puts(l)
	}
	small(4, puts)
	draw := drawer(212)
	for range 1000 {
		puts(drawn(draw, 1+draw(300), 1+draw(9)))
	}
	// numbers of steps of one, two and three bytes
	for _, size := range []int{126, 127, 128, 129, 130, 16383, 16384, 16385, 16386, 16387} {
		puts(chain(size))
	}
}

// P21.2
func TestPutOfSuchAsMayNotBe(t *testing.T) {
	for _, l := range mayNot() {
		if got := proof.Put(l); got != nil {
			t.Errorf("Put(%s) = %q", brief(l), got)
		}
	}
}

// putIsRead fails, if a proof is not read as it was put.
func putIsRead(t *testing.T, l []api.Step) {
	t.Helper()
	if got, e := proof.Read(proof.Put(l)); !alike(got, l) || e != api.OK {
		t.Fatalf("Read(Put(%s)) = %s, %d", brief(l), brief(got), e)
	}
}

// P21.3: it is read as it was, and no two proofs have the same bytes.
func TestPutIsRead(t *testing.T) {
	of := map[string][]api.Step{}
	note := func(l []api.Step) {
		b := string(proof.Put(l))
		if as, is := of[b]; is && !alike(as, l) {
			t.Fatalf("Put(%s) is that of %s", brief(l), brief(as))
		}
		of[b] = append([]api.Step(nil), l...)
		putIsRead(t, l)
	}
	for _, l := range mayBe() {
		note(l)
	}
	small(4, note)
	if len(of) < 1000 {
		t.Errorf("there are %d proofs", len(of))
	}
	draw := drawer(213)
	for range 1000 {
		l := drawn(draw, 1+draw(300), 1+draw(9))
		putIsRead(t, l)
		putIsRead(t, proof.Trim(l))
	}
}

// P21.2, P21.3: as many steps as there may be, and more.
func TestPutOfManySteps(t *testing.T) {
	putIsRead(t, chain(most))
	putIsRead(t, flat(most))
	b := proof.Put(chain(most))
	if string(b) != bytesOf(chain(most)) || string(b[:3]) != "\xc0\x80\x00" {
		t.Errorf("the bytes of the longest chain are other ones: %q..", b[:min(len(b), 20)])
	}
	for _, l := range [][]api.Step{chain(most + 1), flat(most + 1), flat(most + 100)} {
		if got := proof.Put(l); got != nil {
			t.Errorf("Put of %d steps has %d bytes", len(l), len(got))
		}
		if got, e := proof.Read([]byte(bytesOf(l))); got != nil || e != api.ErrLong {
			t.Errorf("Read of %d steps = %s, %d", len(l), brief(got), e)
		}
	}
}
