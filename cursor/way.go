package cursor

import (
	"bytes"
	"slices"

	"quarry/api"
	"quarry/node"
)

// deepest is how many nodes below the root one may lie. It ends the way down
// through pages that lead back to themselves, too.
const deepest = 12

// stop is a node on the way, and the place of the kid, or of the cell, that was
// taken there.
type stop struct {
	node node.Node
	at   int
}

// places is how many kids, or cells, a node has; none has both.
func places(n node.Node) int { return len(n.Kids) + len(n.Cells) }

func firstPlace(node.Node) int { return 0 }

func lastPlace(n node.Node) int { return places(n) - 1 }

// kidOf is the place of the kid to which a key belongs.
func kidOf(keys [][]byte, key []byte) int {
	at, same := slices.BinarySearchFunc(keys, key, bytes.Compare)
	if same {
		at++
	}
	return at
}

// cellsBelow is how many cells have a key below one.
func cellsBelow(cells []node.Cell, key []byte) int {
	count, _ := slices.BinarySearchFunc(cells, key, func(c node.Cell, key []byte) int {
		return bytes.Compare(c.Key, key)
	})
	return count
}

// fromRoot goes the whole way; which place of each node is taken, choose says.
func (c *Cursor) fromRoot(choose func(node.Node) int) (bool, api.Errno) {
	if c.root == 0 {
		return false, api.OK
	}
	return c.down(nil, c.root, choose)
}

// step goes to the next place on one side, 1 or -1: in the leaf, or, from the
// last node on the way that has one there, down by choose.
func (c *Cursor) step(side int, choose func(node.Node) int) (bool, api.Errno) {
	for way := c.way; len(way) > 0; way = way[:len(way)-1] {
		end := &way[len(way)-1]
		end.at += side
		switch {
		case end.at < 0 || end.at >= places(end.node):
			continue
		case end.node.Leaf:
			return true, api.OK
		}
		return c.down(way, end.node.Kids[end.at], choose)
	}
	c.way = nil
	return false, api.OK
}

// down goes on behind a part of the way, from a page to a leaf. Where a page can't
// be read, the cursor stands at no key then.
func (c *Cursor) down(way []stop, page int, choose func(node.Node) int) (bool, api.Errno) {
	c.way = nil
	for {
		n, e := c.read(page, len(way))
		if e != api.OK {
			return false, e
		}
		at := choose(n)
		way = append(way, stop{node: n, at: at})
		if n.Leaf {
			c.way = way
			return true, api.OK
		}
		page = n.Kids[at]
	}
}

// read is the node of a page that lies so many nodes below the root; a tree that
// names what is no page is damaged.
func (c *Cursor) read(page, depth int) (node.Node, api.Errno) {
	if depth > deepest {
		return node.Node{}, api.ErrCorrupt
	}
	load, e := c.pager.Read(page)
	switch e {
	case api.OK:
		return node.Decode(load)
	case api.ErrRange:
		return node.Node{}, api.ErrCorrupt
	}
	return node.Node{}, e
}
