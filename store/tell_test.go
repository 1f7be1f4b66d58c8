package store_test

import (
	"testing"

	"comprador/api"
	"comprador/store"
)

// P24.2: how many were put in, whatever was dropped.
func TestLen(t *testing.T) {
	s := store.New()
	for n := range 50 {
		if s.Len() != n {
			t.Fatalf("Len = %d, not %d", s.Len(), n)
		}
		s.Add(list(in("a", n, n+1)), n, true)
		s.Drop(n / 2)
		s.Drop(n)
		s.Get(n)
	}
}

// P24.2: which live, and which of these were learned, step by step.
func TestLiveAndLearned(t *testing.T) {
	s := filled(t, some()) // 2, 3, 4, 6, 8 and 9 were learned
	for _, c := range []struct {
		drop          int
		live, learned []int
	}{
		{-1, []int{0, 1, 2, 3, 4, 5, 6, 7, 8, 9}, []int{2, 3, 4, 6, 8, 9}},
		{0, []int{0, 1, 2, 3, 4, 5, 6, 7, 8, 9}, []int{2, 3, 4, 6, 8, 9}},
		{6, []int{0, 1, 2, 3, 4, 5, 7, 8, 9}, []int{2, 3, 4, 8, 9}},
		{2, []int{0, 1, 3, 4, 5, 7, 8, 9}, []int{3, 4, 8, 9}},
		{6, []int{0, 1, 3, 4, 5, 7, 8, 9}, []int{3, 4, 8, 9}},
		{9, []int{0, 1, 3, 4, 5, 7, 8}, []int{3, 4, 8}},
		{10, []int{0, 1, 3, 4, 5, 7, 8}, []int{3, 4, 8}},
		{3, []int{0, 1, 4, 5, 7, 8}, []int{4, 8}},
		{8, []int{0, 1, 4, 5, 7}, []int{4}},
		{7, []int{0, 1, 4, 5, 7}, []int{4}},
		{4, []int{0, 1, 5, 7}, nil},
	} {
		s.Drop(c.drop)
		tells(t, "Live", s.Live(), c.live)
		tells(t, "Learned", s.Learned(), c.learned)
	}
	s.Add(nil, 5, true)
	tells(t, "Live", s.Live(), []int{0, 1, 5, 7, 10})
	tells(t, "Learned", s.Learned(), []int{10})
}

// P24.2: where all were learned and dropped none lives; where none was learned all live.
func TestAllOrNone(t *testing.T) {
	s := store.New()
	for i := range 5 {
		add(t, s, i, false, in("a", 0, 1))
	}
	tells(t, "Live", s.Live(), []int{0, 1, 2, 3, 4})
	tells(t, "Learned", s.Learned(), nil)
	s = store.New()
	for i := range 5 {
		add(t, s, i, true, in("a", 0, 1))
	}
	tells(t, "Learned", s.Learned(), []int{0, 1, 2, 3, 4})
	for i := range 5 {
		drops(t, s, 4-i, true)
	}
	tells(t, "Live", s.Live(), nil)
	tells(t, "Learned", s.Learned(), nil)
	tells(t, "About", s.About("a"), nil)
}

// P24.2: which have a term of a name, wherever it stands, whatever it says, learned or not, as long as they live.
func TestAbout(t *testing.T) {
	s := filled(t, some())
	for _, c := range []struct {
		drop               int
		a, b, c, d, a2, aa []int
		beta               []int
	}{
		{-1, []int{0, 3, 4, 5, 6}, []int{5, 8}, []int{5, 8, 9}, []int{9}, []int{6}, []int{6}, []int{6, 7}},
		{5, []int{0, 3, 4, 5, 6}, []int{5, 8}, []int{5, 8, 9}, []int{9}, []int{6}, []int{6}, []int{6, 7}},
		{2, []int{0, 3, 4, 5, 6}, []int{5, 8}, []int{5, 8, 9}, []int{9}, []int{6}, []int{6}, []int{6, 7}},
		{4, []int{0, 3, 5, 6}, []int{5, 8}, []int{5, 8, 9}, []int{9}, []int{6}, []int{6}, []int{6, 7}},
		{9, []int{0, 3, 5, 6}, []int{5, 8}, []int{5, 8}, nil, []int{6}, []int{6}, []int{6, 7}},
		{6, []int{0, 3, 5}, []int{5, 8}, []int{5, 8}, nil, nil, nil, []int{7}},
		{8, []int{0, 3, 5}, []int{5}, []int{5}, nil, nil, nil, []int{7}},
	} {
		s.Drop(c.drop)
		for name, want := range map[string][]int{"a": c.a, "b": c.b, "c": c.c, "d": c.d, "a-": c.a2, "aa": c.aa, "β": c.beta, "": nil, "e": nil, "\xce": nil, "A": nil, "aaa": nil} {
			tells(t, "About "+name, s.About(name), want)
		}
	}
	add(t, s, 1, false, in("d", 0, 1), absent("e"))
	tells(t, "About d", s.About("d"), []int{10})
	tells(t, "About e", s.About("e"), []int{10})
	tells(t, "About a", s.About("a"), []int{0, 3, 5})
}

// P24.2: names are told apart byte by byte, where one is the beginning of another one, too; of one that may not be there is none.
func TestAboutNames(t *testing.T) {
	s := store.New()
	for i, name := range goodNames {
		add(t, s, i, i%2 > 0, in(name, 0, 1))
	}
	var all []api.Term
	for _, name := range goodNames {
		all = append(all, absent(name))
	}
	add(t, s, 99, false, all...)
	for i, name := range goodNames {
		tells(t, "About "+name, s.About(name), []int{i, len(goodNames)})
		if i%2 > 0 {
			drops(t, s, i, true)
			tells(t, "About "+name, s.About(name), []int{len(goodNames)})
		}
	}
	for _, name := range badNames {
		tells(t, "About "+name, s.About(name), nil)
	}
}

// Each is told once, of a list that is no clash, too: one that has terms of one Name again and again.
func TestAboutOnce(t *testing.T) {
	s := store.New()
	add(t, s, 0, false, in("b", 0, 1), in("a", 0, 1), in("b", 3, 4), in("b", 5, 6))
	add(t, s, 1, true, in("b", 0, 1), absent("b"))
	tells(t, "About a", s.About("a"), []int{0})
	tells(t, "About b", s.About("b"), []int{0, 1})
}
