package trail_test

import (
	"fmt"
	"slices"
	"strings"
	"testing"

	"comprador/api"
	"comprador/trail"
)

// cuts are the places that cut all versions into cells: the first, the third and the last one have one version each.
var cuts = [6]int{0, 1, 5, 6, 999999999, top}

const (
	cells = 5
	gone  = 1 << cells // the bit of that a package is not chosen
	every = 2*gone - 1 // the mask of all states
)

// set is the term of a mask's states, put down cell by cell.
func set(name string, mask int) api.Term {
	t := api.Term{Name: name, None: mask&gone != 0}
	for i := range cells {
		if mask>>i&1 == 0 {
			continue
		}
		if i > 0 && mask>>(i-1)&1 == 1 {
			t.In[len(t.In)-1].Hi = cuts[i+1]
			continue
		}
		t.In = append(t.In, api.Span{Lo: cuts[i], Hi: cuts[i+1]})
	}
	return t
}

// three are the names of what masks are of.
var three = [3]string{"a", "a-", "β"}

// step is an entry: the states of one of three names.
type step struct {
	name, mask, level, cause int
}

// other is another way to keep a trail: what is asked is found by going through all steps, in masks of bits.
type other []step

// know is what is known of a name by the first n steps.
func (o other) know(n, name int) int {
	mask := every
	for i, s := range o {
		if i < n && s.name == name {
			mask &= s.mask
		}
	}
	return mask
}

// level is the greatest level there is.
func (o other) level() int {
	level := 0
	for _, s := range o {
		level = max(level, s.level)
	}
	return level
}

// decide is what is there behind a decision on the version of a cell that has one.
func (o other) decide(name, cell int) (other, api.Errno) {
	if o.know(len(o), name)>>cell&1 == 0 {
		return o, api.ErrNone
	}
	return append(o, step{name, 1 << cell, o.level() + 1, -1}), api.OK
}

// derive is what is there behind a derivation.
func (o other) derive(name, mask, cause int) (other, api.Errno) {
	switch both := o.know(len(o), name) & mask; both {
	case 0:
		return o, api.ErrNone
	case o.know(len(o), name):
		return o, api.ErrThere
	}
	return append(o, step{name, mask, o.level(), cause}), api.OK
}

// back is what is there behind going back.
func (o other) back(level int) other {
	var left other
	for _, s := range o {
		if s.level <= level || s.level == 0 {
			left = append(left, s)
		}
	}
	return left
}

// picks are the names that were decided.
func (o other) picks() []api.Pick {
	var l []api.Pick
	for i, name := range three {
		at := slices.IndexFunc(o, func(s step) bool { return s.cause == -1 && s.name == i })
		if at >= 0 {
			cell := slices.Index([]int{1, 2, 4, 8, 16}, o[at].mask)
			l = append(l, api.Pick{Name: name, Ver: cuts[cell]})
		}
	}
	return l
}

// first is the least n by which the first n steps make masks of three names sure.
func (o other) first(masks [3]int) int {
	for n := range len(o) + 1 {
		sure := true
		for name, mask := range masks {
			sure = sure && o.know(n, name)&^mask == 0
		}
		if sure {
			return n
		}
	}
	return -1
}

// clash is the clash of masks of three names: of those that are full it has no term.
func clash(masks [3]int) []api.Term {
	var c []api.Term
	for i, mask := range masks {
		if mask != every {
			c = append(c, set(three[i], mask))
		}
	}
	return c
}

// op is what is done to a trail.
type op struct {
	kind, name int
	mask       int // or a cell, or a level
	cause      int
}

// The kinds of what is done.
const (
	decide = iota
	derive
	back
)

// do does it, in both ways, and fails if they tell different errors.
func (o op) do(t *testing.T, tr *trail.Trail, was other) other {
	t.Helper()
	var got, want api.Errno
	now := was
	switch o.kind {
	case decide:
		got = tr.Decide(three[o.name], cuts[o.mask])
		now, want = was.decide(o.name, o.mask)
	case derive:
		got = tr.Derive(set(three[o.name], o.mask), o.cause)
		now, want = was.derive(o.name, o.mask, o.cause)
	case back:
		tr.Back(o.mask)
		now = was.back(o.mask)
	}
	if got != want {
		t.Fatalf("behind %s: %v told %d, not %d", was, o, got, want)
	}
	return now
}

// String is the text of all steps.
func (o other) String() string {
	var l []string
	for _, s := range o {
		l = append(l, fmt.Sprintf("%v, %d, %d", set(three[s.name], s.mask), s.level, s.cause))
	}
	return "[" + strings.Join(l, "; ") + "]"
}

// is fails, if a trail is another one than it should be.
func (o other) is(t *testing.T, tr *trail.Trail, clashes ...[3]int) {
	t.Helper()
	var want []trail.Entry
	for _, s := range o {
		want = append(want, entry(set(three[s.name], s.mask), s.level, s.cause))
	}
	has(t, tr, o.level(), want...)
	for i, name := range three {
		knows(t, "Know", tr.Know(name), set(name, o.know(len(o), i)))
		for n := -1; n <= len(o)+1; n++ {
			knows(t, fmt.Sprintf("behind %s: KnowAt %d", o, n), tr.KnowAt(n, name), set(name, o.know(n, i)))
		}
	}
	if got, right := tr.Picks(), o.picks(); !slices.Equal(got, right) || (got == nil) != (len(right) == 0) {
		t.Fatalf("behind %s the picks are %#v, not %v", o, got, right)
	}
	for _, masks := range clashes {
		if got, right := tr.First(clash(masks)), o.first(masks); got != right {
			t.Fatalf("behind %s First of %v = %d, not %d", o, clash(masks), got, right)
		}
	}
}

// someClashes are some clashes: none, of one term, of two, and of three.
func someClashes() [][3]int {
	return [][3]int{
		{every, every, every}, {every &^ 1, every, every}, {every &^ 4, every, every}, {every &^ gone, every, every}, {1, every, every}, {4, every, every}, {gone, every, every}, {7, every, every},
		{every, 1, every}, {every, every &^ gone, every}, {every, every, 16}, {every, every, every &^ gone}, {every &^ gone, every, every &^ gone}, {4, every, 16}, {every &^ 1, every, every &^ gone}, {every &^ 16, every &^ 16, every &^ 16}, {every &^ gone, every &^ gone, every},
	}
}

// someOps are some things that may be done: decisions, derivations that say something, and such as don't, and going back.
func someOps() []op {
	return []op{
		{decide, 0, 0, 0}, {decide, 0, 2, 0}, {decide, 2, 4, 0},
		{derive, 0, 1 | 4 | gone, 4}, {derive, 0, 2 | 4 | 8 | 16, 0}, {derive, 0, gone, 7}, {derive, 0, every, 3}, {derive, 0, 0, 3}, {derive, 2, every &^ gone, 1<<63 - 1},
		{back, 0, 0, 0}, {back, 0, 1, 0}, {back, 0, -1, 0},
	}
}

// drawnOp is something that is done, drawn: seldom going back.
func drawnOp(draw func(int) int) op {
	o := op{name: draw(3), cause: draw(100)}
	switch k := draw(20); {
	case k < 6:
		o.kind, o.mask = decide, []int{0, 2, 4}[draw(3)]
	case k < 19:
		o.kind, o.mask = derive, every&^(1<<draw(cells+1))
		if draw(3) == 0 {
			o.mask = draw(every + 1)
		}
	default:
		o.kind, o.mask = back, draw(6)-1
	}
	return o
}

// drawnClashes are n clashes, drawn.
func drawnClashes(draw func(int) int, n int) [][3]int {
	var l [][3]int
	for range n {
		masks := [3]int{every, every, every}
		for range 1 + draw(4) {
			masks[draw(3)] &^= 1 << draw(cells+1)
		}
		for i, mask := range masks {
			if mask == 0 {
				masks[i] = 1
			}
		}
		l = append(l, masks)
	}
	return l
}
