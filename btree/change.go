package btree

import (
	"quarry/api"
	"quarry/node"
	"quarry/throw"
)

// pieceRoom is how many bytes of a long value one piece has.
const pieceRoom = 503

// edit is what becomes of a leaf's cells; the key stands at the place, if it is
// there, or would.
type edit func(cells []node.Cell, at int, there bool) []node.Cell

// change is a space in which one tree is made out of another. Nothing is written
// till all of it is laid out: a tree that turns out to be damaged, or to have no
// room, leaves the disk as it was.
type change struct {
	*Space
	sheets []sheet
}

// sheet is a page that was taken, and what is to be written there.
type sheet struct {
	page int
	load []byte
}

// do does the work, which answers a root, and writes what that has laid out; with
// an error the pages that were taken are free again.
func (c *change) do(work func() int) (int, api.Errno) {
	root, e := throw.Caught(func() int {
		made := work()
		c.write()
		return made
	})
	if e != api.OK {
		for _, s := range c.sheets {
			c.free.Give(s.page)
		}
	}
	return root, e
}

func (c *change) write() {
	for _, s := range c.sheets {
		throw.If(c.pager.Write(s.page, s.load))
	}
}

// place takes a page for a load. What the disk does not have is no room, though
// the set of free pages may know it.
func (c *change) place(load []byte) int {
	page, ok := c.free.Take()
	if !ok {
		panic(api.ErrFull)
	}
	c.sheets = append(c.sheets, sheet{page, load})
	if page >= c.pager.Pages() {
		panic(api.ErrFull)
	}
	return page
}

// newCell is a cell of this value, with the pieces of a long one laid out.
func (c *change) newCell(key, value []byte) node.Cell {
	if len(value) <= api.MaxInline {
		return node.Cell{Key: key, Value: value, Size: len(value)}
	}
	next := 0
	// from the last piece on, for each names the one behind it
	for end := len(value); end > 0; {
		start := (end - 1) / pieceRoom * pieceRoom
		load, e := node.Piece(value[start:end], next)
		throw.If(e)
		next = c.place(load)
		end = start
	}
	return node.Cell{Key: key, Over: next, Size: len(value)}
}

// tree is the root of the tree that root becomes, when the leaf to which a key
// belongs is edited.
func (c *change) tree(root int, key []byte, e edit) int {
	top := &branch{leaf: true}
	if root != 0 {
		top = newBranch(c.node(root, 0))
	}
	list := c.become(top, 0, key, e)
	if len(list) == 0 {
		return 0
	}
	made := list[0]
	if len(list) > 1 {
		made = part{node: &branch{kids: list}}
	} else if made.node.isThin() {
		made = made.node.kids[0]
	}
	return c.lay(made, 0)
}

// become is the list of nodes that stand in the place of b, which lies so deep,
// when the leaf to which a key belongs is edited. One that stands there alone may
// be thin: it is mended where its neighbours are known.
func (c *change) become(b *branch, depth int, key []byte, e edit) []part {
	if b.leaf {
		at, there := placeOf(b.cells, key)
		return nodesOf(&branch{leaf: true, cells: e(b.cells, at, there)})
	}
	at := wayDown(b.keys(), key)
	list := c.become(c.open(&b.kids[at], depth+1), depth+1, key, e)
	kids := c.settle(instead(b.kids, at, at+1, list), depth+1)
	return nodesOf(&branch{kids: kids})
}

// open is the node of a part that lies so deep.
func (c *change) open(p *part, depth int) *branch {
	if p.node == nil {
		p.node = newBranch(c.node(p.page, depth))
	}
	return p.node
}

// settle is kids of one node, which lie so deep, behind a change of some of them:
// neighbours that go together are joined, and one that is thin gets kids of a
// neighbour.
func (c *change) settle(kids []part, depth int) []part {
again:
	for i := 1; i < len(kids); i++ {
		if kids[i].loose && c.asOne(kids, i, depth).fits() {
			kids = c.join(kids, i, depth)
			goto again
		}
		kids[i].loose = false
	}
	for i := range kids {
		if len(kids) > 1 && kids[i].node != nil && kids[i].node.isThin() {
			kids = c.join(kids, max(i, 1), depth)
			goto again
		}
	}
	return kids
}

// asOne is the kid at a place and its left neighbour, as one node.
func (c *change) asOne(kids []part, at, depth int) *branch {
	return beside(c.open(&kids[at-1], depth), c.open(&kids[at], depth), kids[at].key)
}

// join is kids with what the one at a place and its left neighbour become as one
// node, in the place of both.
func (c *change) join(kids []part, at, depth int) []part {
	one := c.asOne(kids, at, depth)
	one.kids = c.settle(one.kids, depth+1)
	return instead(kids, at-1, at+1, nodesOf(one))
}

// lay is where a part lies, or is laid, with all that is new below it. What was
// read does not fit together, if what is made of it is no right node.
func (c *change) lay(p part, depth int) int {
	if p.page != 0 {
		return p.page
	}
	n := node.Node{Leaf: p.node.leaf, Cells: p.node.cells, Keys: p.node.keys()}
	for _, kid := range p.node.kids {
		n.Kids = append(n.Kids, c.lay(kid, depth+1))
	}
	load, e := node.Encode(n)
	if e != api.OK || depth > deepest {
		panic(api.ErrCorrupt)
	}
	return c.place(load)
}
