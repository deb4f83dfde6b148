package btree

import (
	"slices"

	"quarry/api"
	"quarry/node"
)

// branch is a node that a change has in hand: a leaf's cells, or kids.
type branch struct {
	leaf  bool
	cells []node.Cell
	kids  []part
}

// part is one of the nodes that stand side by side under one node: those that
// were there, and the list of those that stand in the place of one of them.
type part struct {
	key   []byte  // that between it and the part on its left; it says nothing where there is none
	loose bool    // whether it may go together with the part on its left
	page  int     // where it lies; 0: it is new
	node  *branch // nil: it was not read yet
}

// newBranch is a node that was read.
func newBranch(n node.Node) *branch {
	b := &branch{leaf: n.Leaf, cells: n.Cells, kids: make([]part, len(n.Kids))}
	for i, page := range n.Kids {
		b.kids[i].page = page
		if i > 0 {
			b.kids[i].key = n.Keys[i-1]
		}
	}
	return b
}

// keys is what stands between the kids.
func (b *branch) keys() [][]byte {
	var keys [][]byte
	for i := 1; i < len(b.kids); i++ {
		keys = append(keys, b.kids[i].key)
	}
	return keys
}

func (b *branch) size() int {
	return node.Size(node.Node{Leaf: b.leaf, Cells: b.cells, Keys: b.keys()})
}

func (b *branch) fits() bool { return b.size() <= api.Payload }

// isThin tells whether b has one kid alone, and so is no right node.
func (b *branch) isThin() bool { return !b.leaf && len(b.kids) == 1 }

// beside is two neighbours as one node, with the key between them. The kids that
// meet there have not been neighbours till then, so they may go together.
func beside(left, right *branch, key []byte) *branch {
	if left.leaf != right.leaf {
		panic(api.ErrCorrupt)
	}
	one := &branch{
		leaf:  left.leaf,
		cells: slices.Concat(left.cells, right.cells),
		kids:  slices.Concat(left.kids, right.kids),
	}
	if !one.leaf {
		meets := &one.kids[len(left.kids)]
		meets.key, meets.loose = key, true
	}
	return one
}

// nodesOf is the list of nodes into which b goes: none, if it is empty; itself,
// if it fits a page; else two, as even as may be, which do not go together. (What
// does not fit has three cells, or five kids: none of these stays with one kid.)
func nodesOf(b *branch) []part {
	if b.leaf && len(b.cells) == 0 {
		return nil
	}
	if b.fits() {
		return []part{{node: b}}
	}
	halves := b.cut(1)
	for at := 2; at < len(b.cells)+len(b.kids); at++ {
		if h := b.cut(at); greater(h) < greater(halves) {
			halves = h
		}
	}
	return halves
}

// greater is the size of the greater one of two nodes.
func greater(halves []part) int {
	return max(halves[0].node.size(), halves[1].node.size())
}

// cut is b in two, ahead of the cell or kid at a place.
func (b *branch) cut(at int) []part {
	if b.leaf {
		left, right := b.cells[:at], b.cells[at:]
		return []part{
			{node: &branch{leaf: true, cells: left}},
			{node: &branch{leaf: true, cells: right}, key: between(left[at-1].Key, right[0].Key)},
		}
	}
	return []part{
		{node: &branch{kids: b.kids[:at]}},
		{node: &branch{kids: b.kids[at:]}, key: b.kids[at].key},
	}
}

// between is the shortest beginning of a key that is still above a lesser one:
// the shorter the keys between kids are, the fewer nodes there must be.
func between(lesser, key []byte) []byte {
	same := 0
	for same < len(lesser) && lesser[same] == key[same] {
		same++
	}
	return key[:same+1]
}

// instead is kids with a list of new nodes in the place of some of them. Where a
// node stands that is less than what stood there, it may go together with its
// neighbour; where it is not less, it can't, as what stood there could not.
func instead(kids []part, from, to int, list []part) []part {
	made := slices.Concat(kids[:from], list, kids[to:])
	if len(list) == 0 {
		// What goes is a leaf of one cell. Beside so small a leaf its neighbours
		// are so great that they do not go together.
		return made
	}
	first := &made[from]
	first.key = kids[from].key
	first.loose = first.node.size() < kids[from].node.size()
	if end := from + len(list); end < len(made) {
		less := made[end-1].node.size() < kids[to-1].node.size()
		made[end].loose = made[end].loose || less
	}
	return made
}
