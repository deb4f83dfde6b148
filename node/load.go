package node

import (
	"bytes"

	"quarry/api"
)

// The first byte of a load says of which kind it is.
const (
	leafLoad  = 1
	innerLoad = 2
	pieceLoad = 3
)

// pieceHead is what a piece has of bytes ahead of its data.
const pieceHead = 5

// Encode is a node's page.
func Encode(n Node) ([]byte, api.Errno) {
	if e := Check(n); e != api.OK {
		return nil, e
	}
	if n.Leaf {
		return leafBytes(n.Cells), api.OK
	}
	return innerBytes(n.Keys, n.Kids), api.OK
}

// Decode is the node that a page is.
func Decode(b []byte) (Node, api.Errno) {
	return read(b, func(r reader) Node {
		n := r.node()
		if Check(n) != api.OK {
			panic(api.ErrCorrupt)
		}
		return n
	})
}

// Piece is a page of a long value.
func Piece(data []byte, next int) ([]byte, api.Errno) {
	p := piece{data: data, next: next}
	if !p.isRight() {
		return nil, api.ErrField
	}
	w := newWriter(pieceLoad)
	w.number(next)
	w.number(len(data))
	w.bytes(data)
	return w.load(), api.OK
}

// Open is what a page of a long value says.
func Open(b []byte) ([]byte, int, api.Errno) {
	p, e := read(b, func(r reader) piece {
		p := r.piece()
		if !p.isRight() {
			panic(api.ErrCorrupt)
		}
		return p
	})
	return p.data, p.next, e
}

// piece is a part of a long value, and the page of the one behind it.
type piece struct {
	data []byte
	next int
}

func (p piece) isRight() bool {
	count := len(p.data)
	return count >= 1 && count <= api.Payload-pieceHead && (p.next == 0 || isPage(p.next))
}

func leafBytes(cells []Cell) []byte {
	w := newWriter(leafLoad)
	w.number(len(cells))
	for _, c := range cells {
		w.key(c.Key)
		w.number(c.Size)
		if c.Over != 0 {
			w.number(c.Over)
		} else {
			w.bytes(c.Value)
		}
	}
	return w.load()
}

func innerBytes(keys [][]byte, kids []int) []byte {
	w := newWriter(innerLoad)
	w.number(len(keys))
	w.number(kids[0])
	for i, k := range keys {
		w.key(k)
		w.number(kids[i+1])
	}
	return w.load()
}

// writer lays the fields of a load one behind the other. What it is given is
// right, and so never more than a load has room for.
type writer struct {
	made []byte
}

func newWriter(kind byte) writer {
	return writer{made: append(make([]byte, 0, api.Payload), kind)}
}

// number lays a number in two bytes, the lowest first.
func (w *writer) number(n int) {
	w.made = append(w.made, byte(n), byte(n>>8))
}

func (w *writer) bytes(b []byte) {
	w.made = append(w.made, b...)
}

func (w *writer) key(k []byte) {
	w.made = append(w.made, byte(len(k)))
	w.bytes(k)
}

// load is what was laid, and the noughts with which its room was made.
func (w *writer) load() []byte { return w.made[:api.Payload] }

// read is what the work takes from a load, behind which noughts alone are left;
// what is thrown meanwhile is the error.
func read[T any](load []byte, work func(reader) T) (made T, e api.Errno) {
	defer func() {
		if thrown := recover(); thrown != nil {
			e = thrown.(api.Errno)
		}
	}()
	if len(load) != api.Payload {
		panic(api.ErrCorrupt)
	}
	r := newReader(load)
	taken := work(r)
	r.end()
	return taken, api.OK
}

// reader is closures over what is left of a load: each takes some bytes of it,
// or gives up and throws.
type reader struct {
	number func(width int) int    // of so many bytes, the lowest first
	bytes  func(count int) []byte // in memory of their own
	end    func()
}

func newReader(rest []byte) reader {
	take := func(count int) []byte {
		if count > len(rest) {
			panic(api.ErrCorrupt)
		}
		taken := rest[:count]
		rest = rest[count:]
		return taken
	}
	return reader{
		number: func(width int) int {
			n := 0
			for i, c := range take(width) {
				n |= int(c) << (8 * i)
			}
			return n
		},
		bytes: func(count int) []byte {
			return bytes.Clone(take(count))
		},
		end: func() {
			for _, c := range take(len(rest)) {
				if c != 0 {
					panic(api.ErrCorrupt)
				}
			}
		},
	}
}

// node takes a node, right or not, from the front of a load.
func (r reader) node() Node {
	switch r.number(1) {
	case leafLoad:
		return r.leaf()
	case innerLoad:
		return r.inner()
	}
	panic(api.ErrCorrupt)
}

// leaf makes no room for the cells ahead, since any number of them may be said.
func (r reader) leaf() Node {
	n := Node{Leaf: true}
	for range r.number(2) {
		n.Cells = append(n.Cells, r.cell())
	}
	return n
}

func (r reader) inner() Node {
	count := r.number(2)
	n := Node{Kids: []int{r.number(2)}}
	for range count {
		n.Keys = append(n.Keys, r.key())
		n.Kids = append(n.Kids, r.number(2))
	}
	return n
}

func (r reader) cell() Cell {
	c := Cell{Key: r.key(), Size: r.number(2)}
	if isInline(c.Size) {
		c.Value = r.bytes(c.Size)
	} else {
		c.Over = r.number(2)
	}
	return c
}

func (r reader) key() []byte { return r.bytes(r.number(1)) }

func (r reader) piece() piece {
	if r.number(1) != pieceLoad {
		panic(api.ErrCorrupt)
	}
	next := r.number(2)
	return piece{data: r.bytes(r.number(2)), next: next}
}
