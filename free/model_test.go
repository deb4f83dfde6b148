package free

import (
	"math/rand"
	"slices"
	"testing"

	"quarry/api"
)

// plain is a set as the chapter's words have it: how many pages, and a list of those in use.
type plain struct {
	pages int
	used  []int
}

func (p plain) isPage(n int) bool { return n >= 2 && n < p.pages }

func (p plain) free() []int { return without(p.pages, p.used...) }

// act is one call, and the numbers that it is handed.
type act struct {
	kind  int
	pages []int
}

const (
	actTake = iota
	actGive
	actOnly
	actClone
	actKinds
)

// do does the same to both, and answers the set and the plain one behind it.
func do(t *testing.T, s *Set, p plain, a act) (*Set, plain) {
	t.Helper()
	switch a.kind {
	case actTake:
		l := p.free()
		if len(l) == 0 {
			checkNoTake(t, s)
			return s, p
		}
		checkTake(t, s, l[0])
		p.used = append(slices.Clone(p.used), l[0])
	case actGive:
		n := a.pages[0]
		checkGive(t, s, n, slices.Contains(p.used, n))
		p.used = slices.DeleteFunc(slices.Clone(p.used), func(m int) bool { return m == n })
	case actOnly:
		if slices.ContainsFunc(a.pages, func(n int) bool { return !p.isPage(n) }) {
			checkOnly(t, s, api.ErrRange, a.pages...)
			return s, p
		}
		checkOnly(t, s, api.OK, a.pages...)
		p.used = slices.Compact(slices.Sorted(slices.Values(a.pages)))
	case actClone:
		c := s.Clone()
		s.Take()
		s.Only(nil)
		return c, p
	}
	return s, p
}

// 7.3: as many can be taken as are left, each once, and none that is in use.
func checkAllTaken(t *testing.T, s *Set, p plain) {
	t.Helper()
	c := s.Clone()
	taken := slices.Clone(p.used)
	for range c.Left() {
		n, ok := c.Take()
		if !ok || !p.isPage(n) || slices.Contains(taken, n) {
			t.Fatalf("Take: %d, %t, where in use are %v of %d", n, ok, taken, p.pages)
		}
		taken = append(taken, n)
	}
	checkNoTake(t, c)
	checkSet(t, c, p.pages)
	checkSet(t, s, p.pages, p.free()...)
}

// 7.1 to 7.3: every row of so many acts, over small sets.
func TestEveryRow(t *testing.T) {
	for pages := 0; pages <= 5; pages++ {
		acts := []act{{kind: actTake}, {kind: actClone}}
		for n := -1; n <= pages; n++ {
			acts = append(acts, act{actGive, []int{n}}, act{actOnly, []int{n}}, act{actOnly, []int{n, 2}}, act{actOnly, []int{3, n}})
		}
		acts = append(acts, act{actOnly, nil}, act{actOnly, from(2, pages)})
		for i := range acts {
			for j := range acts {
				for k := range acts {
					s, p := New(pages), plain{pages: pages}
					for _, a := range []act{acts[i], acts[j], acts[k]} {
						s, p = do(t, s, p, a)
						checkSet(t, s, pages, p.free()...)
					}
					checkAllTaken(t, s, p)
				}
			}
			if t.Failed() {
				t.Fatalf("of %d pages, rows that begin with %v", pages, acts[i])
			}
		}
	}
}

// anAct is one by chance; most of its numbers are pages.
func anAct(r *rand.Rand, pages int) act {
	a := act{kind: r.Intn(actKinds)}
	if r.Intn(4) > 0 {
		a.kind = r.Intn(2)
	}
	switch a.kind {
	case actGive:
		a.pages = []int{r.Intn(pages+3) - 1}
	case actOnly:
		for range r.Intn(pages + 1) {
			a.pages = append(a.pages, 2+r.Intn(max(pages-2, 1)))
		}
		if r.Intn(3) == 0 {
			a.pages = append(a.pages, r.Intn(pages+3)-1)
		}
	}
	return a
}

// 7.1 to 7.3: long rows of acts, over sets of some size.
func TestLongRows(t *testing.T) {
	for seed := range int64(60) {
		r := rand.New(rand.NewSource(seed))
		pages := r.Intn(40)
		s, p := New(pages), plain{pages: pages}
		for range 300 {
			a := anAct(r, pages)
			s, p = do(t, s, p, a)
			checkSet(t, s, pages, p.free()...)
			if t.Failed() {
				t.Fatalf("seed %d, of %d pages, at %v", seed, pages, a)
			}
		}
		checkAllTaken(t, s, p)
	}
}
