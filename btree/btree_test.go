package btree

import (
	"fmt"
	"math/rand"
	"slices"
	"testing"

	"quarry/api"
)

// The chapter's examples.
func TestExamples(t *testing.T) {
	w := fresh(t, 50)
	r := w.put(t, 0, "a", "1")
	w.checkGet(t, r, "a", "1")
	q := w.put(t, r, "b", "2")
	if q == r {
		t.Errorf("Put answers the root %d again", q)
	}
	w.checkNoGet(t, r, "b")
	w.checkTree(t, r, model{"a": "1"})
	w.checkTree(t, q, model{"a": "1", "b": "2"})
	if root := w.remove(t, w.remove(t, q, "a"), "b"); root != 0 {
		t.Errorf("without all of its cells the tree is %d, want 0", root)
	}
	if root, e := w.s.Put(0, make([]byte, 129), nil); root != 0 || e != api.ErrLong {
		t.Errorf("Put of a key of 129 bytes: %d, error %d", root, e)
	}
}

// 9.1, 9.2, 9.4: the tree without cells.
func TestEmptyTree(t *testing.T) {
	w := fresh(t, 10)
	for _, key := range []string{"", "a", times("k", 128), times("k", 129), times("k", 70000)} {
		w.checkNoGet(t, 0, key)
		w.checkNoDelete(t, 0, key)
	}
	w.checkPages(t, 0, nil)
	w.keep(t)
	w.keep(t, 0, 0)
	if w.s.Left() != 8 {
		t.Errorf("%d pages are left, want 8", w.s.Left())
	}
	root := w.put(t, 0, "", "")
	w.checkTree(t, root, model{"": ""})
	if w.s.Left() != 7 {
		t.Errorf("%d pages are left, want 7", w.s.Left())
	}
}

// checkNoDelete: the key is not there, and nothing is done.
func (w *world) checkNoDelete(t testing.TB, root int, key string) {
	t.Helper()
	same := w.unchanged(t)
	if r, ok, e := w.s.Delete(root, []byte(key)); r != root || ok || e != api.OK {
		t.Fatalf("Delete(%d, %q): %d, %t, error %d, want the root, false", root, key, r, ok, e)
	}
	same()
}

// shape is how the keys and values of a tree look.
type shape struct {
	name  string
	key   func(i int) string
	value func(i int) string
}

func shapes() []shape {
	short := func(i int) string { return data(i, i%65) }
	none := func(int) string { return "" }
	return []shape{
		{"short", func(i int) string { return fmt.Sprintf("%04d", i) }, short},
		{"numbers", func(i int) string { return fmt.Sprint(i) }, none},
		{"long keys that differ at the end", func(i int) string { return times("k", 124) + fmt.Sprintf("%04d", i) }, short},
		{"long keys that differ ahead", func(i int) string { return fmt.Sprintf("%04d", i) + times("k", 124) }, none},
		{"beginnings of one another", func(i int) string { return times("ab", i/4) + times("a", i%4) }, short},
		{"great cells", func(i int) string { return times("k", 100+i%25) + fmt.Sprintf("%04d", i) }, func(i int) string { return data(i, 64) }},
		{"long values", func(i int) string { return fmt.Sprintf("%04d", i) }, func(i int) string { return data(i, i*211%2049) }},
	}
}

// keyCount is how many keys of a shape a test takes.
const keyCount = 170

// orders is the numbers up to a count, rising, falling, and mixed.
func orders(count int) map[string][]int {
	rising := make([]int, count)
	for i := range rising {
		rising[i] = i
	}
	falling := slices.Clone(rising)
	slices.Reverse(falling)
	inward := make([]int, 0, count)
	for i := range count {
		inward = append(inward, []int{i / 2, count - 1 - i/2}[i%2])
	}
	return map[string][]int{
		"rising": rising, "falling": falling, "inward": inward,
		"mixed": rand.New(rand.NewSource(9)).Perm(count),
	}
}

// 9.1, 9.2, 9.6: keys put in any order, put again with other values, and deleted
// in any order, up to the tree 0.
func TestOrders(t *testing.T) {
	t.Parallel()
	for _, s := range shapes() {
		for name, order := range orders(keyCount) {
			t.Run(s.name+", "+name, func(t *testing.T) {
				t.Parallel()
				w := fresh(t, 1000)
				root, m := 0, model{}
				for n, i := range order {
					m[s.key(i)] = s.value(i)
					root = w.put(t, root, s.key(i), s.value(i))
					w.step(t, n, root, m)
				}
				for n, i := range order {
					v := s.value(i + 1 + n%7)
					m[s.key(i)] = v
					root = w.put(t, root, s.key(i), v)
					w.step(t, n, root, m)
				}
				w.checkTree(t, root, m)
				for n, i := range order {
					delete(m, s.key(i))
					root = w.remove(t, root, s.key(i))
					w.checkNoGet(t, root, s.key(i))
					w.step(t, n, root, m)
				}
				w.keep(t, root)
				if root != 0 || w.s.Left() != 998 {
					t.Errorf("without all cells the tree is %d, and %d pages are free", root, w.s.Left())
				}
			})
		}
	}
}

// step lets the pages of older trees be free, and looks at the tree now and then.
func (w *world) step(t testing.TB, n, root int, m model) {
	t.Helper()
	if n%9 == 0 {
		w.keep(t, root)
		w.checkRight(t, root, m)
	}
}

// 9.2: keys of all sizes that may be; those of more bytes are not there, and can't be put.
func TestKeySizes(t *testing.T) {
	w := fresh(t, 1000)
	root, m := 0, model{}
	for size := range 129 {
		for _, letter := range []string{"k", "\x00", "\xff"} {
			k := times(letter, size)
			m[k] = fmt.Sprint(size, letter)
			root = w.put(t, root, k, m[k])
		}
		w.keep(t, root)
	}
	w.checkTree(t, root, m)
	for _, size := range []int{129, 130, 255, 256, 257, 384, 508, 70000} {
		for _, letter := range []string{"k", "\x00", "\xff"} {
			k := times(letter, size)
			w.checkNoGet(t, root, k)
			w.checkNoDelete(t, root, k)
			w.checkNoPut(t, root, k, "v", api.ErrLong)
			w.checkNoPut(t, 0, k, "", api.ErrLong)
		}
	}
	w.checkTree(t, root, m)
}

// checkNoPut: it is refused, and nothing is done.
func (w *world) checkNoPut(t testing.TB, root int, key, value string, want api.Errno) {
	t.Helper()
	same := w.unchanged(t)
	if r, e := w.s.Put(root, []byte(key), []byte(value)); r != 0 || e != want {
		t.Fatalf("Put(%d, of %d bytes, of %d bytes): %d, error %d, want %d", root, len(key), len(value), r, e, want)
	}
	same()
}

// piecesOf is how many pages a value of so many bytes has of its own.
func piecesOf(size int) int {
	switch {
	case size <= 64:
		return 0
	case size <= 503:
		return 1
	case size <= 1006:
		return 2
	case size <= 1509:
		return 3
	case size <= 2012:
		return 4
	}
	return 5
}

// 9.1 to 9.3: values of all sizes at the edges, each made into each other.
func TestValueSizes(t *testing.T) {
	sizes := []int{0, 1, 63, 64, 65, 502, 503, 504, 1005, 1006, 1007, 1509, 1510, 2012, 2013, 2047, 2048}
	for _, one := range sizes {
		for _, other := range sizes {
			w := fresh(t, 40)
			root := w.put(t, 0, "key", data(1, one))
			l := w.checkTree(t, root, model{"key": data(1, one)})
			if len(l.pages) != 1+piecesOf(one) || w.s.Left() != 37-piecesOf(one) {
				t.Fatalf("a value of %d bytes: the pages %v, %d left", one, l.pages, w.s.Left())
			}
			second := w.put(t, root, "key", data(2, other))
			l = w.checkTree(t, second, model{"key": data(2, other)})
			if len(l.pages) != 1+piecesOf(other) {
				t.Fatalf("a value of %d bytes: the pages %v", other, l.pages)
			}
			w.checkTree(t, root, model{"key": data(1, one)})
			w.checkNoPut(t, second, "key", data(2, 2049), api.ErrLong)
			w.checkNoPut(t, second, "other", data(2, 2049), api.ErrLong)
			if root := w.remove(t, second, "key"); root != 0 {
				t.Fatalf("without its key the tree is %d", root)
			}
		}
	}
}

// 9.2 with R2: ErrLong goes ahead of all other errors.
func TestLongAhead(t *testing.T) {
	w := fresh(t, 3)
	w.put(t, 0, "a", "b")
	for _, root := range []int{0, 2, -1, 1, 3, 5000} {
		w.checkNoPut(t, root, times("k", 129), "", api.ErrLong)
		w.checkNoPut(t, root, times("k", 129), times("v", 2049), api.ErrLong)
		w.checkNoPut(t, root, "", times("v", 2049), api.ErrLong)
		w.checkNoPut(t, root, "", times("v", 100000), api.ErrLong)
	}
	w.d.Arm(0)
	w.d.Sync()
	w.checkNoPut(t, 2, times("k", 129), "", api.ErrLong)
}

// kept is a root that was answered, and what it has.
type kept struct {
	root  int
	cells model
}

// act puts or deletes something by chance in the tree k.
func (w *world) act(t testing.TB, r *rand.Rand, s shape, k kept) kept {
	t.Helper()
	i := r.Intn(keyCount)
	if r.Intn(5) < 2 {
		if _, there := k.cells[s.key(i)]; !there {
			w.checkNoDelete(t, k.root, s.key(i))
			return k
		}
		return kept{w.remove(t, k.root, s.key(i)), k.cells.without(s.key(i))}
	}
	v := s.value(r.Intn(300))
	if r.Intn(30) == 0 {
		v = data(i, r.Intn(2049))
	}
	return kept{w.put(t, k.root, s.key(i), v), k.cells.with(s.key(i), v)}
}

// 9.6: all roots have what was laid there, beside the newer ones.
func TestOldRoots(t *testing.T) {
	t.Parallel()
	for n, s := range shapes() {
		t.Run(s.name, func(t *testing.T) {
			t.Parallel()
			r := rand.New(rand.NewSource(int64(n)))
			w := fresh(t, 4096)
			all := []kept{{}}
			for w.s.Left() > 100 && len(all) < 400 {
				// most go on from the newest, some from an older one
				from := all[len(all)-1]
				if r.Intn(10) == 0 {
					from = all[r.Intn(len(all))]
				}
				all = append(all, w.act(t, r, s, from))
			}
			for i, k := range all {
				w.checkRight(t, k.root, k.cells)
				if i%29 == 0 {
					w.checkTree(t, k.root, k.cells)
				}
			}
		})
	}
}

// 9.4, 9.6: roots that Keep has kept stay what they were, while others are made
// over and over in what it has let be free.
func TestKeptRoots(t *testing.T) {
	t.Parallel()
	for n, s := range shapes() {
		t.Run(s.name, func(t *testing.T) {
			t.Parallel()
			r := rand.New(rand.NewSource(int64(40 + n)))
			w := fresh(t, 1500)
			now := kept{}
			var others []kept
			for range 300 {
				now = w.act(t, r, s, now)
				if r.Intn(20) == 0 && len(others) < 3 {
					others = append(others, now)
				} else if r.Intn(30) == 0 && len(others) > 0 {
					now = others[len(others)-1]
					others = others[:len(others)-1]
				}
				w.checkKept(t, append(slices.Clone(others), now))
			}
			for _, k := range append(others, now) {
				w.checkTree(t, k.root, k.cells)
			}
		})
	}
}

// checkKept: behind Keep of some trees these are right, and their pages alone are in use.
func (w *world) checkKept(t testing.TB, l []kept) {
	t.Helper()
	var roots, pages []int
	for _, k := range l {
		roots = append(roots, k.root)
		pages = append(pages, w.checkRight(t, k.root, k.cells).pages...)
	}
	w.keep(t, roots...)
	slices.Sort(pages)
	if pages = slices.Compact(pages); !slices.Equal(pages, w.used()) || w.s.Left() != w.d.Pages()-2-len(pages) {
		t.Fatalf("in use are %v, %d are left, want %v", w.used(), w.s.Left(), pages)
	}
}

// Keys that differ in few bytes ahead need no more than these between kids.
func TestShortKeysBetween(t *testing.T) {
	s := shapes()[3]
	w, root, _ := someTree(t, s, 400, keyCount)
	pages, _ := w.s.Pages(root)
	for _, page := range pages {
		for _, k := range w.nodeAt(page).Keys {
			if len(k) > 4 {
				t.Fatalf("the key %q stands between kids", k)
			}
		}
	}
}
