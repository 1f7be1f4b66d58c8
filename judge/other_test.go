package judge_test

import (
	"regexp"
	"slices"

	"comprador/api"
	"comprador/index"
)

// inForm are the names that may be.
var inForm = regexp.MustCompile(`^[a-zα-ω][a-zα-ω0-9-]{0,11}$`)

// mayBe tells, in another way, whether steps are a proof that may be.
func mayBe(l []api.Step) bool {
	for i, s := range l {
		leaf, bare := s.A == 0 && s.B == 0, s.Ver == 0 && s.To == ""
		if !inForm.MatchString(s.Name) {
			return false
		}
		switch s.Kind {
		case 1, 2:
			if !leaf || !bare {
				return false
			}
		case 3:
			if !leaf || s.Ver < 0 || s.Ver > top-1 || !inForm.MatchString(s.To) {
				return false
			}
		case 4:
			if !bare || min(s.A, s.B) < 0 || max(s.A, s.B) > i-1 {
				return false
			}
		default:
			return false
		}
	}
	return len(l) > 0 && len(l) <= most
}

// The states of a package: in one of the versions 0 to 4, in a greater one, and not chosen.
const (
	states = 7
	every  = 1<<states - 1
	gone   = 1 << (states - 1)
	chosen = every &^ gone
)

// masks are the states that a clash has of three names: all, of those that it has no term of.
type masks [3]int

// always are those of the clash without terms.
var always = masks{every, every, every}

// place is a name's place among the three: -1, if it is another one.
func place(name string) int {
	return slices.Index(three[:], name)
}

// mask are the states of a set's versions.
func mask(in []api.Span) int {
	m := 0
	for state, ver := range []int{0, 1, 2, 3, 4, top - 1} {
		for _, s := range in {
			if s.Lo <= ver && ver < s.Hi {
				m |= 1 << state
			}
		}
	}
	return m
}

// clash is the clash of masks.
func (m masks) clash() []api.Term {
	var c []api.Term
	for i, name := range three {
		if m[i] == every {
			continue
		}
		t := api.Term{Name: name, None: m[i]&gone != 0}
		for state, ends := range [][2]int{{0, 1}, {1, 2}, {2, 3}, {3, 4}, {4, 5}, {5, top}} {
			if m[i]>>state&1 == 0 {
				continue
			}
			if last := len(t.In) - 1; last >= 0 && t.In[last].Hi == ends[0] {
				t.In[last].Hi = ends[1]
				continue
			}
			t.In = append(t.In, api.Span{Lo: ends[0], Hi: ends[1]})
		}
		c = append(c, t)
	}
	return c
}

// holds tells whether the clash of masks holds of picks.
func (m masks) holds(l []api.Pick) bool {
	has := [3]int{gone, gone, gone}
	for _, p := range l {
		has[place(p.Name)] = 1 << min(p.Ver, 5)
	}
	for i := range has {
		if m[i]&has[i] == 0 {
			return false
		}
	}
	return true
}

// needOf is a name's set in needs, and whether there is one.
func needOf(needs []api.Need, name string) (int, bool) {
	for _, n := range needs {
		if n.Name == name {
			return mask(n.In), true
		}
	}
	return 0, false
}

// masksOf are the masks of a step's clash, in another way, and whether there is one.
func masksOf(x *index.Index, root []api.Need, s api.Step, ahead []masks) (masks, bool) {
	m, at := always, place(s.Name)
	if at < 0 {
		return m, false
	}
	known, _ := x.Get(s.Name)
	switch s.Kind {
	case 1:
		in, ok := needOf(root, s.Name)
		m[at] &^= in
		return m, ok
	case 2:
		m[at] = chosen
		for _, r := range known.Releases {
			m[at] &^= 1 << r.Ver
		}
		return m, x.Has(s.Name)
	case 3:
		for _, r := range known.Releases {
			in, ok := needOf(r.Needs, s.To)
			if r.Ver == s.Ver && ok {
				m[at] = 1 << r.Ver
				m[place(s.To)] &^= in
				return m, m[at] != 0
			}
		}
		return m, false
	}
	a, b := ahead[s.A], ahead[s.B]
	for i := range m {
		m[i] = a[i] & b[i]
	}
	m[at] = a[at] | b[at]
	return m, a[at] != every && b[at] != every && !slices.Contains(m[:], 0)
}

// allMasks are the masks of a proof's steps, in another way, up to the first that is wrong.
func allMasks(x *index.Index, root []api.Need, l []api.Step) []masks {
	var made []masks
	for _, s := range l {
		m, ok := masksOf(x, root, s, made)
		if !ok {
			break
		}
		made = append(made, m)
	}
	return made
}

// accepted tells, in another way, whether steps are a proof that is accepted.
func accepted(x *index.Index, root []api.Need, l []api.Step) bool {
	if !mayBe(l) {
		return false
	}
	made := allMasks(x, root, l)
	return len(made) == len(l) && made[len(l)-1] == always
}

// search joins all facts over one name behind the other, the last one first, until nothing new comes of it: it tells a proof whose last step is the clash without terms, and true; or all that was found, and false, and then there is no such proof.
func search(x *index.Index, root []api.Need) ([]api.Step, bool) {
	var l []api.Step
	var made []masks
	try := func(s api.Step) bool {
		m, ok := masksOf(x, root, s, made)
		if !ok || slices.ContainsFunc(made, m.within) {
			return false
		}
		l, made = append(l, s), append(made, m)
		return true
	}
	for _, s := range leaves() {
		if try(s) && made[len(l)-1] == always {
			return l, true
		}
	}
	for at := 2; at >= 0; at-- {
		var open []int // those without terms of names that are done
		for i, m := range made {
			if slices.Equal(m[at+1:], always[at+1:]) {
				open = append(open, i)
			}
		}
		for i := 0; i < len(open); i++ {
			for _, j := range open[:i] {
				if !try(joined(three[at], open[i], j)) {
					continue
				}
				if made[len(l)-1] == always {
					return l, true
				}
				open = append(open, len(l)-1)
			}
		}
	}
	return l, false
}

// within tells whether the clash of masks holds of no picks but such as another one holds of.
func (m masks) within(other masks) bool {
	for i := range m {
		if m[i]&^other[i] != 0 {
			return false
		}
	}
	return true
}

// leaves are all steps of the three names, in versions of 0 to 4, that are not Joined.
func leaves() []api.Step {
	var l []api.Step
	for _, name := range three {
		l = append(l, asked(name), released(name))
		for ver := range 5 {
			for _, to := range three {
				l = append(l, needed(name, ver, to))
			}
		}
	}
	return l
}

// uses are the numbers of the steps that a step uses.
func uses(l []api.Step, last int) map[int]bool {
	used := map[int]bool{last: true}
	for i := last; i >= 0; i-- {
		if used[i] && l[i].Kind == 4 {
			used[l[i].A], used[l[i].B] = true, true
		}
	}
	return used
}
