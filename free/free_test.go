package free

import (
	"math"
	"slices"
	"testing"

	"quarry/api"
)

// outside is numbers that are no pages of a set of so many pages.
func outside(pages int) []int {
	return []int{math.MinInt, -api.MaxPages, -2, -1, 0, 1, pages, pages + 1, api.MaxPages, api.MaxPages + 1, math.MaxInt}
}

// from is the numbers from one up to the one ahead of the other.
func from(low, high int) []int {
	l := []int{}
	for n := low; n < high; n++ {
		l = append(l, n)
	}
	return l
}

// without is the pages of a set of so many that are not among those in use.
func without(pages int, used ...int) []int {
	return slices.DeleteFunc(from(2, pages), func(n int) bool { return slices.Contains(used, n) })
}

// checkSet: of a set of so many pages just these are free.
func checkSet(t *testing.T, s *Set, pages int, want ...int) {
	t.Helper()
	free := []int{}
	for _, n := range from(-3, pages+3) {
		if s.Free(n) {
			free = append(free, n)
		}
	}
	if !slices.Equal(free, want) {
		t.Errorf("of %d pages free: %v, want %v", pages, free, want)
	}
	for _, n := range outside(max(pages, 0)) {
		if s.Free(n) {
			t.Errorf("of %d pages free: %d, which is none", pages, n)
		}
	}
	if left := s.Left(); left != len(want) {
		t.Errorf("Left: %d, want %d", left, len(want))
	}
}

func checkTake(t *testing.T, s *Set, want int) {
	t.Helper()
	if n, ok := s.Take(); n != want || !ok {
		t.Errorf("Take: %d, %t, want %d, true", n, ok, want)
	}
}

func checkNoTake(t *testing.T, s *Set) {
	t.Helper()
	if n, ok := s.Take(); n != 0 || ok {
		t.Errorf("Take: %d, %t, want 0, false", n, ok)
	}
}

func checkGive(t *testing.T, s *Set, n int, want bool) {
	t.Helper()
	if ok := s.Give(n); ok != want {
		t.Errorf("Give(%d): %t, want %t", n, ok, want)
	}
}

func checkOnly(t *testing.T, s *Set, want api.Errno, l ...int) {
	t.Helper()
	if e := s.Only(l); e != want {
		t.Errorf("Only(%v): error %d, want %d", l, e, want)
	}
}

// 7.1: a new set has the pages from 2 on, up to MaxPages of them in all, and all are free.
func TestNew(t *testing.T) {
	for _, pages := range []int{math.MinInt, math.MinInt + 1, -api.MaxPages, -1, 0, 1, 2} {
		s := New(pages)
		checkSet(t, s, 2)
		checkNoTake(t, s)
		checkSet(t, s, 2)
	}
	for _, pages := range []int{3, 4, 5, 6, api.MaxPages - 1, api.MaxPages} {
		checkSet(t, New(pages), pages, from(2, pages)...)
	}
	for _, pages := range []int{api.MaxPages + 1, 2 * api.MaxPages, math.MaxInt32, math.MaxInt - 1, math.MaxInt} {
		checkSet(t, New(pages), api.MaxPages, from(2, api.MaxPages)...)
	}
}

// 7.1: Take goes from the least page to the greatest; then there is none, however often it is asked.
func TestTakeAll(t *testing.T) {
	for _, pages := range []int{-1, 0, 1, 2, 3, 5} {
		s := New(pages)
		for n := 2; n < pages; n++ {
			checkTake(t, s, n)
			checkSet(t, s, pages, from(n+1, pages)...)
		}
		for range 3 {
			checkNoTake(t, s)
			checkSet(t, s, pages)
		}
	}
	for _, pages := range []int{api.MaxPages, api.MaxPages + 1} {
		s := New(pages)
		for n := 2; n < api.MaxPages; n++ {
			checkTake(t, s, n)
			if left := s.Left(); s.Free(n) || left != api.MaxPages-1-n {
				t.Fatalf("behind the page %d: it is free %t, left %d", n, s.Free(n), left)
			}
		}
		checkNoTake(t, s)
		checkSet(t, s, api.MaxPages)
	}
}

// 7.1: what is taken is the least free page, wherever others are in use.
func TestTakeLeast(t *testing.T) {
	s := New(8)
	checkOnly(t, s, api.OK, 2, 4, 5, 7)
	checkTake(t, s, 3)
	checkGive(t, s, 7, true)
	checkGive(t, s, 5, true)
	checkTake(t, s, 5)
	checkTake(t, s, 6)
	checkTake(t, s, 7)
	checkNoTake(t, s)
	checkGive(t, s, 4, true)
	checkGive(t, s, 2, true)
	checkTake(t, s, 2)
	checkTake(t, s, 4)
	checkNoTake(t, s)
}

// 7.1: a page that is in use is given back once; one that is free is not.
func TestGive(t *testing.T) {
	s := New(5)
	for n := 2; n < 5; n++ {
		checkGive(t, s, n, false)
		checkSet(t, s, 5, 2, 3, 4)
	}
	checkOnly(t, s, api.OK, 2, 3, 4)
	checkGive(t, s, 3, true)
	checkSet(t, s, 5, 3)
	checkGive(t, s, 3, false)
	checkSet(t, s, 5, 3)
	checkGive(t, s, 4, true)
	checkSet(t, s, 5, 3, 4)
	checkGive(t, s, 4, false)
	checkSet(t, s, 5, 3, 4)
	checkGive(t, s, 2, true)
	checkSet(t, s, 5, 2, 3, 4)
}

// 7.1: what is no page is not given back, and nothing becomes of it.
func TestGiveOutside(t *testing.T) {
	for _, pages := range []int{-1, 0, 1, 2, 3, 5, api.MaxPages, api.MaxPages + 1} {
		has := min(max(pages, 0), api.MaxPages)
		empty, full := New(pages), New(pages)
		checkOnly(t, full, api.OK, from(2, has)...)
		for _, n := range outside(has) {
			checkGive(t, empty, n, false)
			checkGive(t, full, n, false)
			if empty.Left() != max(has-2, 0) || full.Left() != 0 {
				t.Errorf("behind Give(%d), of %d pages: left %d and %d", n, pages, empty.Left(), full.Left())
			}
		}
		checkSet(t, empty, has, from(2, has)...)
		checkSet(t, full, has)
		checkNoTake(t, full)
	}
}

// 7.1: the last page of the greatest set is one like the others.
func TestLastPage(t *testing.T) {
	last := api.MaxPages - 1
	s := New(api.MaxPages + 1)
	checkOnly(t, s, api.OK, last)
	checkSet(t, s, api.MaxPages, from(2, last)...)
	checkGive(t, s, last, true)
	checkGive(t, s, last, false)
	checkOnly(t, s, api.ErrRange, last+1)
	checkSet(t, s, api.MaxPages, from(2, api.MaxPages)...)
}

// 7.1: behind Only just the list's members are in use, whatever was ahead.
func TestOnly(t *testing.T) {
	lists := [][]int{nil, {}, {2}, {3}, {4}, {5}, {2, 5}, {5, 2}, {4, 3}, {3, 3}, {3, 3, 3, 3, 3, 3}, {2, 4, 2}, {2, 3, 4, 5}, {5, 4, 3, 2}, {5, 5, 4, 4, 3, 3, 2, 2}}
	for _, ahead := range lists {
		for _, l := range lists {
			s := New(6)
			checkOnly(t, s, api.OK, ahead...)
			checkSet(t, s, 6, without(6, ahead...)...)
			checkOnly(t, s, api.OK, l...)
			want := without(6, l...)
			checkSet(t, s, 6, want...)
			for _, n := range want {
				checkTake(t, s, n)
			}
			checkNoTake(t, s)
		}
	}
}

// 7.1: a member that is no page refuses the list, wherever it stands, and the set is as it was.
func TestOnlyOutside(t *testing.T) {
	for _, pages := range []int{-1, 0, 1, 2, 3, 5, api.MaxPages, api.MaxPages + 1} {
		has := min(max(pages, 0), api.MaxPages)
		s := New(pages)
		used := from(2, has)[:min(1, max(has-2, 0))]
		checkOnly(t, s, api.OK, used...)
		want := without(has, used...)
		for _, n := range outside(has) {
			checkOnly(t, s, api.ErrRange, n)
			checkOnly(t, s, api.ErrRange, n, n)
			if has > 2 {
				checkOnly(t, s, api.ErrRange, has-1, n)
				checkOnly(t, s, api.ErrRange, n, has-1)
				checkOnly(t, s, api.ErrRange, 2, has-1, n, 2)
			}
			if s.Left() != len(want) {
				t.Errorf("behind a refused Only with %d, of %d pages: left %d, want %d", n, pages, s.Left(), len(want))
			}
		}
		checkSet(t, s, has, want...)
	}
}

// 7.1: a set without pages may be told that none is in use.
func TestOnlyOfNone(t *testing.T) {
	for _, pages := range []int{math.MinInt, -1, 0, 1, 2} {
		s := New(pages)
		checkOnly(t, s, api.OK)
		checkSet(t, s, 2)
	}
}

// 7.1: a list may be longer than any set.
func TestOnlyOfManyMembers(t *testing.T) {
	s := New(5)
	long := slices.Repeat([]int{3, 2}, 10*api.MaxPages)
	checkOnly(t, s, api.OK, long...)
	checkSet(t, s, 5, 4)
	long[len(long)-1] = 5
	checkOnly(t, s, api.OK, 4)
	if e := s.Only(long); e != api.ErrRange {
		t.Errorf("Only of a long list with one behind the last: error %d, want %d", e, api.ErrRange)
	}
	checkSet(t, s, 5, 2, 3)
}

// R4: the list that is handed to Only stays as it is, and apart from the set.
func TestOnlyKeepsNothing(t *testing.T) {
	s := New(8)
	room := []int{6, 2, 6, 77, 78}
	l := room[:3]
	checkOnly(t, s, api.OK, l...)
	if e := s.Only(l); e != api.OK {
		t.Errorf("Only: error %d", e)
	}
	checkTake(t, s, 3)
	checkGive(t, s, 6, true)
	if !slices.Equal(room, []int{6, 2, 6, 77, 78}) {
		t.Errorf("the list has become %v", room)
	}
	copy(room, []int{4, 5, 7, 4, 5})
	checkSet(t, s, 8, 4, 5, 6, 7)
	l[0], l[1] = -1, 0
	if e := s.Only(l); e != api.ErrRange {
		t.Errorf("Only of what is no page any more: error %d", e)
	}
	if !slices.Equal(room, []int{-1, 0, 7, 4, 5}) {
		t.Errorf("the refused list has become %v", room)
	}
	checkSet(t, s, 8, 4, 5, 6, 7)
}

// 7.2: asking changes nothing.
func TestAsking(t *testing.T) {
	s := New(6)
	checkOnly(t, s, api.OK, 3, 5)
	for range 3 {
		checkSet(t, s, 6, 2, 4)
		s.Clone()
	}
	checkTake(t, s, 2)
	checkTake(t, s, 4)
	checkNoTake(t, s)
}

// 7.2: a clone is the same, goes its own way, and so does the one that it comes from.
func TestClone(t *testing.T) {
	s := New(7)
	checkOnly(t, s, api.OK, 2, 4)
	c := s.Clone()
	checkSet(t, c, 7, 3, 5, 6)

	checkTake(t, c, 3)
	checkGive(t, c, 2, true)
	checkSet(t, c, 7, 2, 5, 6)
	checkSet(t, s, 7, 3, 5, 6)

	checkTake(t, s, 3)
	checkTake(t, s, 5)
	checkGive(t, s, 4, true)
	checkSet(t, s, 7, 4, 6)
	checkSet(t, c, 7, 2, 5, 6)

	checkOnly(t, c, api.OK, 6)
	checkSet(t, c, 7, 2, 3, 4, 5)
	checkSet(t, s, 7, 4, 6)
	checkOnly(t, s, api.OK)
	checkSet(t, s, 7, 2, 3, 4, 5, 6)
	checkSet(t, c, 7, 2, 3, 4, 5)

	again := c.Clone()
	checkOnly(t, c, api.ErrRange, 7)
	checkOnly(t, again, api.OK, 2, 3, 4, 5, 6)
	checkNoTake(t, again)
	checkSet(t, c, 7, 2, 3, 4, 5)
	checkSet(t, s, 7, 2, 3, 4, 5, 6)
}

// 7.2: a clone has as many pages as the set that it comes from.
func TestCloneSizes(t *testing.T) {
	for _, pages := range []int{math.MinInt, -1, 0, 1, 2, 3, 5, api.MaxPages, api.MaxPages + 1, math.MaxInt} {
		has := min(max(pages, 0), api.MaxPages)
		c := New(pages).Clone()
		checkSet(t, c, has, from(2, has)...)
		checkOnly(t, c, api.ErrRange, has)
		checkOnly(t, c, api.OK, from(2, has)...)
		checkNoTake(t, c)
	}
}

// The chapter's example.
func TestExample(t *testing.T) {
	s := New(5)
	checkSet(t, s, 5, 2, 3, 4)
	checkTake(t, s, 2)
	checkTake(t, s, 3)
	checkGive(t, s, 2, true)
	checkGive(t, s, 2, false)
	checkTake(t, s, 2)
	checkOnly(t, s, api.OK, 4)
	checkSet(t, s, 5, 2, 3)
	checkOnly(t, s, api.ErrRange, 1)
	checkSet(t, s, 5, 2, 3)
}
