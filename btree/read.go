package btree

import (
	"bytes"
	"maps"
	"slices"

	"quarry/api"
	"quarry/node"
	"quarry/throw"
)

// deepest is how many nodes below the root one may lie. It ends the way down
// through pages that lead back to themselves, too.
const deepest = 12

// load is what a page of a tree has; a tree that names what is no page is damaged.
func (s *Space) load(page int) []byte {
	load, e := s.pager.Read(page)
	switch e {
	case api.OK:
		return load
	case api.ErrRange:
		panic(api.ErrCorrupt)
	}
	panic(e)
}

// node is the node of a page that lies so many nodes below the root.
func (s *Space) node(page, depth int) node.Node {
	if depth > deepest {
		panic(api.ErrCorrupt)
	}
	n, e := node.Decode(s.load(page))
	throw.If(e)
	return n
}

// cell is the cell of a key, if it is there.
func (s *Space) cell(root int, key []byte) (node.Cell, bool) {
	if root == 0 {
		return node.Cell{}, false
	}
	n := s.node(root, 0)
	for depth := 1; !n.Leaf; depth++ {
		n = s.node(n.Kids[wayDown(n.Keys, key)], depth)
	}
	at, there := placeOf(n.Cells, key)
	if !there {
		return node.Cell{}, false
	}
	return n.Cells[at], true
}

// wayDown is the place of the kid to which a key belongs.
func wayDown(keys [][]byte, key []byte) int {
	at, same := slices.BinarySearchFunc(keys, key, bytes.Compare)
	if same {
		at++
	}
	return at
}

// placeOf is the place where a key stands among cells, or would.
func placeOf(cells []node.Cell, key []byte) (int, bool) {
	return slices.BinarySearchFunc(cells, key, func(c node.Cell, key []byte) int {
		return bytes.Compare(c.Key, key)
	})
}

// value is all bytes of a cell's value.
func (s *Space) value(c node.Cell) []byte {
	if c.Over == 0 {
		return c.Value
	}
	var long []byte
	s.pieces(c, func(_ int, data []byte) { long = append(long, data...) })
	return long
}

// pieces hands on each piece of a cell's long value, with its page. Those that
// lead back to themselves end as well: each has a byte, and the value no more
// than the cell says.
func (s *Space) pieces(c node.Cell, each func(page int, data []byte)) {
	left := c.Size
	for page := c.Over; page != 0; {
		data, next, e := node.Open(s.load(page))
		throw.If(e)
		left -= len(data)
		if left < 0 {
			panic(api.ErrCorrupt)
		}
		each(page, data)
		page = next
	}
	if left != 0 {
		panic(api.ErrCorrupt)
	}
}

// tour goes through all pages of a tree.
type tour struct {
	*Space
	reached map[int]struct{}
}

// pages is all pages of a tree, rising.
func (s *Space) pages(root int) []int {
	t := tour{Space: s, reached: map[int]struct{}{}}
	if root != 0 {
		t.below(root, 0)
	}
	return slices.Sorted(maps.Keys(t.reached))
}

// below goes through a node that lies so deep, and all that hangs on it.
func (t tour) below(page, depth int) {
	t.reach(page)
	n := t.node(page, depth)
	for _, c := range n.Cells {
		if c.Over != 0 {
			t.pieces(c, func(page int, _ []byte) { t.reach(page) })
		}
	}
	for _, kid := range n.Kids {
		t.below(kid, depth+1)
	}
}

// reach notes a page, which no other way may have led to.
func (t tour) reach(page int) {
	if _, twice := t.reached[page]; twice {
		panic(api.ErrCorrupt)
	}
	t.reached[page] = struct{}{}
}
