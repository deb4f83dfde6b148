package btree

import (
	"fmt"
	"math/rand"
	"slices"
	"strings"
	"testing"

	"quarry/api"
	"quarry/node"
)

// hand lays right trees by hand, of shapes that Put does not come by easily: few
// kids, and nodes that are small where they meet those of another parent, so that
// these go together as soon as their parents are joined.
type hand struct {
	w     *world
	r     *rand.Rand
	count int
	cells model
}

// key is the next key, of so many bytes.
func (h *hand) key(size int) string {
	h.count++
	k := fmt.Sprintf("%05d", h.count)
	return k + strings.Repeat("k", size-len(k))
}

// shares is a sum in as few shares as may be, none above most.
func shares(sum, most int) []int {
	l := make([]int, (sum+most-1)/most)
	for i := range l {
		l[i] = sum / len(l)
		if i < sum%len(l) {
			l[i]++
		}
	}
	return l
}

// leaf lays a leaf of so many bytes.
func (h *hand) leaf(t *testing.T, size int) int {
	n := leafOf()
	for _, share := range shares(size-3, 40+h.r.Intn(156)) {
		if share < 8 {
			share = 8 // a key of five bytes
		}
		value := h.r.Intn(min(share-8, 64) + 1)
		value = max(value, share-3-128)
		c := cellOf(h.key(share-3-value), data(h.count, value))
		n.Cells = append(n.Cells, c)
		h.cells[string(c.Key)] = string(c.Value)
	}
	page, _ := h.w.f.Take()
	h.w.layNode(t, page, n)
	return page
}

// inner lays a node whose keys have so many bytes, each with three more, and what
// hangs on it down to the leaves.
func (h *hand) inner(t *testing.T, height, size int) int {
	keys := shares(size, 131)
	wants := h.wants(height-1, keys)
	n := node.Node{}
	for i, want := range wants {
		if i > 0 {
			n.Keys = append(n.Keys, []byte(h.key(keys[i-1]-3)))
		}
		if height == 1 {
			n.Kids = append(n.Kids, h.leaf(t, want))
		} else {
			n.Kids = append(n.Kids, h.inner(t, height-1, want))
		}
	}
	page, _ := h.w.f.Take()
	h.w.layNode(t, page, n)
	return page
}

// wants is how great the kids of a node with such keys are to be: no two
// neighbours go together, and those at the edges are small, if they can be.
func (h *hand) wants(height int, keys []int) []int {
	small := func() int { return 11 + h.r.Intn(1+h.r.Intn(140)) }
	l := make([]int, len(keys)+1)
	for i := range l {
		l[i] = small()
	}
	for i, key := range keys {
		lack := 504 - key - l[i] - l[i+1]
		if height == 0 {
			lack = 540 - l[i] - l[i+1] // what a leaf has may be some bytes less than is wanted
		}
		if lack <= 0 {
			continue
		}
		// the one that is not at an edge takes it, else any
		at := i + 1
		if i+1 == len(l)-1 && (i > 0 || h.r.Intn(2) == 0) {
			at = i
		}
		l[at] = min(l[at]+lack+h.r.Intn(9), 503)
	}
	return l
}

// handMade is a world with a right tree of a height, and its cells.
func handMade(t *testing.T, seed int64, height int) (*world, int, model) {
	t.Helper()
	h := &hand{w: fresh(t, 4096), r: rand.New(rand.NewSource(seed)), cells: model{}}
	root := h.inner(t, height, 11+h.r.Intn(250))
	return h.w, root, h.cells
}

// 9.2, 9.3, 9.6: each change of a tree laid by hand makes a right tree, with fewer
// than 64 pages of its own.
func TestHandMade(t *testing.T) {
	t.Parallel()
	for height := 1; height <= 6; height++ {
		for seed := range int64(12) {
			t.Run(fmt.Sprint(height, " high, ", seed), func(t *testing.T) {
				t.Parallel()
				w, root, m := handMade(t, seed, height)
				if l := w.checkRight(t, root, m); l.depth != height {
					t.Fatalf("the leaves lie %d deep", l.depth)
				}
				w.leave(t, root, 64)
				for _, o := range changes(rand.New(rand.NewSource(seed)), m, 24) {
					c := w.clone()
					made, e := o.do(c, root)
					if e != api.OK {
						t.Fatalf("error %d", e)
					}
					c.checkRight(t, made, o.of(m))
				}
			})
		}
	}
}

// 9.2, 9.6: a tree laid by hand loses its keys one by one, in any order.
func TestHandMadeToNothing(t *testing.T) {
	t.Parallel()
	for seed := range int64(40) {
		t.Run(fmt.Sprint(seed), func(t *testing.T) {
			t.Parallel()
			w, root, m := handMade(t, seed, 1+int(seed)%4)
			keys := m.keys()
			r := rand.New(rand.NewSource(seed))
			if seed%3 > 0 {
				r.Shuffle(len(keys), func(i, j int) { keys[i], keys[j] = keys[j], keys[i] })
			}
			for i, k := range keys {
				root = w.remove(t, root, k)
				delete(m, k)
				if len(keys) < 200 || i%5 == 0 {
					w.checkRight(t, root, m)
					w.keep(t, root)
				}
			}
			if root != 0 {
				t.Errorf("the tree without cells is %d", root)
			}
		})
	}
}

// filled is a leaf of so many bytes whose keys begin with a text.
func filled(text string, size int) node.Node {
	n := leafOf()
	for i, share := range shares(size-3, 190) {
		key := text + fmt.Sprint(i)
		value := min(share-3-len(key), 64)
		n.Cells = append(n.Cells, cellOf(key+times("k", share-3-value-len(key)), times("v", value)))
	}
	return n
}

// ahead is a key of so many bytes that stands ahead of those that begin with a
// text, and behind those that begin with the texts ahead of it.
func ahead(text string, size int) string {
	last := len(text) - 1
	return text[:last] + string(rune(text[last]-1)) + times("~", size-len(text))
}

// lays lays nodes into the pages from 2 on; all of these are in use then.
func (w *world) lays(t testing.TB, nodes ...node.Node) {
	t.Helper()
	for i, n := range nodes {
		w.layNode(t, 2+i, n)
	}
	w.use(1 + len(nodes))
}

// cellsAt is the cells of a right tree.
func (w *world) cellsAt(t testing.TB, root int) model {
	t.Helper()
	l, wrong := w.lookAt(root)
	if wrong != nil {
		t.Fatalf("the tree %d: %v", root, wrong)
	}
	return l.cells
}

// 9.2: nodes are joined, and so are the kids that meet there.
func TestKidsThatMeet(t *testing.T) {
	w := fresh(t, 60)
	w.lays(t,
		filled("a", 390), filled("b", 122), filled("c", 480), filled("d", 40), // 2 to 5
		filled("e", 60), filled("f", 480), filled("g", 400), // 6 to 8
		innerOf([]int{2, 3, 4, 5}, ahead("b", 110), ahead("c", 110), ahead("d", 110)),
		innerOf([]int{6, 7, 8}, ahead("f", 120), ahead("g", 120)),
		innerOf([]int{9, 10}, ahead("e", 2)))
	// the leaf at page 2 loses a cell, and is joined with that at page 3; so the
	// nodes above go together, and their leaves at the pages 5 and 6, which meet
	m := w.cellsAt(t, 11)
	gone := string(w.nodeAt(2).Cells[0].Key)
	made := w.remove(t, 11, gone)
	w.checkTree(t, 11, m)
	if l := w.checkTree(t, made, m.without(gone)); l.depth != 1 || l.leaves != 5 {
		t.Errorf("%d leaves lie %d deep", l.leaves, l.depth)
	}
}

// 9.2: a node is left with one kid. It gets more from a neighbour: all, if both
// go together, else some; the one on its left, or that on its right.
func TestOneKidLeft(t *testing.T) {
	// two leaves under a node become one; its neighbour has some kids
	build := func(w *world, left bool, kids int) int {
		text := []string{"a", "b"}
		if left {
			text = []string{"b", "a"}
		}
		nodes := []node.Node{filled(text[0]+"0", 390), filled(text[0]+"1", 130), innerOf([]int{2, 3}, ahead(text[0]+"1", 128))}
		n := node.Node{}
		for i := range kids {
			nodes = append(nodes, filled(text[1]+fmt.Sprint(i), 400))
			n.Kids = append(n.Kids, 1+len(nodes))
			if i > 0 {
				n.Keys = append(n.Keys, []byte(ahead(text[1]+fmt.Sprint(i), 122)))
			}
		}
		nodes = append(nodes, n)
		top := innerOf([]int{4, 1 + len(nodes)}, ahead("b", 128))
		if left {
			slices.Reverse(top.Kids)
		}
		w.lays(t, append(nodes, top)...)
		return 2 + len(nodes)
	}
	for _, left := range []bool{false, true} {
		for kids := 3; kids <= 5; kids++ {
			w := fresh(t, 60)
			root := build(w, left, kids)
			m := w.cellsAt(t, root)
			gone := string(w.nodeAt(2).Cells[1].Key)
			made := w.remove(t, root, gone)
			l := w.checkTree(t, made, m.without(gone))
			if want := min(kids-2, 2); l.depth != want {
				t.Errorf("beside %d kids the leaves lie %d deep, want %d", kids, l.depth, want)
			}
			w.checkTree(t, root, m)
		}
	}
}

// 9.2: the root is left with one kid, and that is the tree then.
func TestRootWithOneKid(t *testing.T) {
	w := fresh(t, 60)
	w.lays(t, filled("a", 390), filled("b", 122), innerOf([]int{2, 3}, "b"))
	m := w.cellsAt(t, 4)
	gone := string(w.nodeAt(2).Cells[1].Key)
	made := w.remove(t, 4, gone)
	if l := w.checkTree(t, made, m.without(gone)); l.depth != 0 || w.s.Left() != 58-3-1 {
		t.Errorf("the tree %d is %d deep, %d pages are left", made, l.depth, w.s.Left())
	}
}

// 9.2: a value that gets short, or long, makes its leaf less: it is joined by Put as well.
func TestPutJoins(t *testing.T) {
	w := fresh(t, 60)
	w.lays(t, leafOf(cellOf("a", times("v", 64)), cellOf("a"+times("k", 127), times("v", 64))), filled("b", 280), innerOf([]int{2, 3}, "b"))
	m := w.cellsAt(t, 4)
	for _, size := range []int{0, 10, 65, 600} {
		w.use(4)
		made := w.put(t, 4, "a", data(1, size))
		if l := w.checkTree(t, made, m.with("a", data(1, size))); l.depth != 0 {
			t.Errorf("with a value of %d bytes the leaves lie %d deep", size, l.depth)
		}
	}
	w.use(4)
	made := w.put(t, 4, "a", data(1, 64))
	if l := w.checkTree(t, made, m.with("a", data(1, 64))); l.depth != 1 {
		t.Errorf("with a value as long the leaves lie %d deep", l.depth)
	}
}
