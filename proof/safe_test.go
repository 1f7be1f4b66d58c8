package proof_test

import (
	"bytes"
	"slices"
	"strings"
	"testing"
	"unsafe"

	"comprador/api"
	"comprador/proof"
)

// behind are steps that lie behind a list's length: with them it would be another proof.
func behind() []api.Step {
	return []api.Step{released("zz"), joined("zzz", 0, 0)}
}

// stretch is a list whose memory goes on behind its length.
func stretch(l []api.Step) []api.Step {
	return append(slices.Clone(l), behind()...)[:len(l)]
}

// spoil writes into all memory of a list.
func spoil(l []api.Step) {
	for i := range l[:cap(l)] {
		l[:cap(l)][i] = api.Step{Kind: -7, Name: "spoilt", Ver: -7, To: "spoilt", A: -7, B: -7}
	}
}

// 0.5, 0.8: what is given is not changed, nor read or written behind its length.
func TestGivenStepsStay(t *testing.T) {
	for _, was := range append(mayBe(), mayNot()...) {
		l := stretch(was)
		if proof.Check(l) != proof.Check(was) || !proof.Same(l, was) || !proof.Same(was, l) {
			t.Fatalf("what lies behind %s is read by Check, or Same", brief(was))
		}
		if !alike(proof.Trim(l), proof.Trim(was)) || !slices.Equal(proof.Leaves(l), proof.Leaves(was)) || !bytes.Equal(proof.Put(l), proof.Put(was)) {
			t.Fatalf("what lies behind %s is read by Trim, Leaves, or Put", brief(was))
		}
		if long := append(slices.Clone(was), behind()...); !alike(l[:len(l)+2], long) {
			t.Fatalf("%s became %s", brief(long), brief(l[:len(l)+2]))
		}
	}
}

// 0.5: what is told is new memory, each time, and stays as it was told, whatever becomes of what was given.
func TestAnswersAreNew(t *testing.T) {
	for _, l := range mayBe() {
		given := slices.Clone(l)
		trimmed, leaves, put := proof.Trim(given), proof.Leaves(given), proof.Put(given)
		spoil(proof.Trim(given))
		other := proof.Leaves(given)
		for i := range other[:cap(other)] {
			other[:cap(other)][i] = "spoilt"
		}
		first := proof.Put(given)
		for i := range first[:cap(first)] {
			first[:cap(first)][i] ^= 255
		}
		if !alike(given, l) {
			t.Fatalf("%s became %s", brief(l), brief(given))
		}
		spoil(given)
		if !alike(trimmed, trimOther(l)) || !slices.Equal(leaves, leavesOther(l)) || string(put) != bytesOf(l) {
			t.Fatalf("what was told of %s became %s, %q, %q", brief(l), brief(trimmed), leaves, put)
		}
	}
}

// 0.5, 0.8: what is given to Read is not changed, nor read or written behind its length, nor kept.
func TestReadLeavesTheBytes(t *testing.T) {
	for _, l := range mayBe() {
		b := bytesOf(l)
		for _, size := range []int{len(b), len(b) - 1, len(b) / 2, 0} {
			whole := []byte(b + b + "\x00")
			got, e := proof.Read(whole[:size])
			if string(whole) != b+b+"\x00" {
				t.Fatalf("Read(%q) made %q of what was given", b[:size], whole)
			}
			for i := range whole {
				whole[i] ^= 255
			}
			want, also := readOther(b[:size])
			if !alike(got, want) || e != also {
				t.Fatalf("Read(%q) = %s, %d, not %s, %d", b[:size], brief(got), e, brief(want), also)
			}
		}
		// what stands behind the bytes would make them right
		tells(t, string([]byte(b)[:len(b)-1]), api.ErrShort)
	}
}

// 0.5: what is read is new memory, each time.
func TestReadIsNew(t *testing.T) {
	for _, l := range mayBe() {
		b := proof.Put(l)
		first, _ := proof.Read(b)
		second, _ := proof.Read(b)
		spoil(first)
		third, _ := proof.Read(b)
		if !alike(second, l) || !alike(third, l) || !bytes.Equal(b, proof.Put(l)) {
			t.Fatalf("two calls of Read(%q) share memory", b)
		}
	}
}

// within tells whether a text lies in some memory.
func within(s string, from unsafe.Pointer, size int) bool {
	at := uintptr(unsafe.Pointer(unsafe.StringData(s)))
	return at < uintptr(from)+uintptr(size) && uintptr(from) < at+uintptr(len(s))
}

// 0.5: the texts, too, that are told share no memory with what was given, nor with one another.
func TestTextsAreNew(t *testing.T) {
	memory := strings.Repeat("abc", 4)
	l := []api.Step{asked(memory[:4]), released(memory[1:5]), needed(memory[2:6], 5, memory[:5]), joined(memory[3:7], 0, 1), joined(memory[4:8], 3, 2)}
	b := proof.Put(l)
	var texts []string
	note := func(l []api.Step) {
		for _, s := range l {
			texts = append(texts, s.Name)
			if s.To != "" {
				texts = append(texts, s.To)
			}
		}
	}
	for range 2 {
		note(proof.Trim(l))
		texts = append(texts, proof.Leaves(l)...)
		read, _ := proof.Read(b)
		note(read)
	}
	if len(texts) != 2*(6+2+6) {
		t.Fatalf("there are %d texts: %q", len(texts), texts)
	}
	for i, s := range texts {
		if within(s, unsafe.Pointer(unsafe.StringData(memory)), len(memory)) || within(s, unsafe.Pointer(unsafe.SliceData(b)), len(b)) {
			t.Errorf("%q is in the memory of what was given", s)
		}
		for _, other := range texts[:i] {
			if within(s, unsafe.Pointer(unsafe.StringData(other)), len(other)) {
				t.Errorf("two texts %q and %q share memory", s, other)
			}
		}
	}
}

// 0.8: an empty list is none.
func TestNoneIsNil(t *testing.T) {
	for _, l := range [][]api.Step{nil, {}, toProof("asked a"), toProof("asked a; joined a 0 0")} {
		if got := proof.Leaves(l); got != nil {
			t.Errorf("Leaves(%s) = %q, not nil", brief(l), got)
		}
	}
	for _, b := range [][]byte{nil, {}} {
		if got, e := proof.Read(b); got != nil || e != api.ErrShort {
			t.Errorf("Read of no bytes = %s, %d", brief(got), e)
		}
	}
}

// The language's rule 5: each time the same is told.
func TestToldAgain(t *testing.T) {
	l := drawn(drawer(215), 400, 3)
	trimmed, leaves, put := proof.Trim(l), proof.Leaves(l), string(proof.Put(l))
	for range 50 {
		if !alike(proof.Trim(l), trimmed) || !slices.Equal(proof.Leaves(l), leaves) || string(proof.Put(l)) != put {
			t.Fatal("something else is told")
		}
	}
}

// 0.1: no call panics, or goes on for ever, at any steps, or none.
func TestAnySteps(t *testing.T) {
	for _, l := range append(mayNot(), flat(most+1), append(chain(most-1), joined("a", most, most)), slices.Repeat(toProof("joined a 5 5"), 1000)) {
		proof.Check(l)
		proof.Trim(l)
		proof.Leaves(l)
		proof.Put(l)
		proof.Same(l, nil)
		proof.Same(l, l)
	}
}

// 0.1: and at any bytes.
func TestAnyBytes(t *testing.T) {
	reads(t, "")
	for i := range 256 {
		for j := range 256 {
			s := string([]byte{byte(i), byte(j)})
			for _, ahead := range []string{"", "\x01", "\x01\x03\x01a", "\x02\x01\x01a\x04\x01b"} {
				reads(t, ahead+s)
				reads(t, ahead+strings.Repeat(s, 40))
			}
		}
		reads(t, strings.Repeat(string([]byte{byte(i)}), 1<<20))
	}
	draw := drawer(216)
	for range 20000 {
		b := make([]byte, draw(40))
		for i := range b {
			b[i] = []byte{0, 1, 2, 3, 4, 'a', 'b', byte(draw(256))}[draw(8)]
		}
		reads(t, string(b))
	}
}
