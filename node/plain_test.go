package node

import (
	"bytes"
	"slices"
	"strings"
	"testing"

	"quarry/api"
)

func raw(l ...byte) []byte { return l }

func joined(l ...[]byte) []byte { return bytes.Join(l, nil) }

// padded is some bytes with noughts behind them, 508 in all.
func padded(l ...[]byte) []byte {
	b := joined(l...)
	return append(b, make([]byte, max(508-len(b), 0))...)
}

// cellOf is a cell with a value of its own.
func cellOf(key, value string) Cell {
	return Cell{Key: []byte(key), Value: []byte(value), Size: len(value)}
}

// longOf is a cell whose value lies elsewhere.
func longOf(key string, over, size int) Cell {
	return Cell{Key: []byte(key), Over: over, Size: size}
}

func leafOf(cells ...Cell) Node { return Node{Leaf: true, Cells: cells} }

func innerOf(kids []int, keys ...string) Node {
	n := Node{Kids: kids}
	for _, k := range keys {
		n.Keys = append(n.Keys, []byte(k))
	}
	return n
}

// times is a text of so many equal letters.
func times(letter string, count int) string { return strings.Repeat(letter, count) }

// manyCells is as many cells as a leaf may have: keys of at most one byte, values
// of none, and the last one of what is left.
func manyCells() []Cell {
	cells := []Cell{cellOf("", "")}
	for c := range 125 {
		cells = append(cells, cellOf(string([]byte{byte(2*c + 1)}), ""))
	}
	cells[125] = cellOf("\xff", "\x00\x01")
	return cells
}

// manyKeys is a node of as many keys as may be.
func manyKeys() Node {
	n := innerOf([]int{4095}, "")
	for c := range 125 {
		n.Keys = append(n.Keys, []byte{byte(2*c + 1)})
	}
	for k := range n.Keys {
		n.Kids = append(n.Kids, 2+k*32)
	}
	return n
}

// rightNodes is nodes that are right, at the edges and within.
func rightNodes() []Node {
	k128, k127 := times("k", 128), times("k", 127)
	return []Node{
		leafOf(cellOf("", "")),
		leafOf(cellOf("", "\x00")),
		leafOf(cellOf("a", "x"), longOf("b", 9, 100)),
		leafOf(cellOf("\x00", "\x00"), cellOf("\x00\x00", ""), cellOf("\x00\x01", "\xff")),
		leafOf(longOf("", 2, 65), longOf("a", 4095, 2048), longOf("b", 255, 255), longOf("c", 256, 256), longOf("d", 2, 512)),
		leafOf(cellOf(k127, times("v", 63)), cellOf(k128, times("v", 64))),
		leafOf(cellOf(k128, times("v", 64)), cellOf(times("l", 128), times("\x00", 64)), cellOf(times("m", 48), times("w", 64))),
		leafOf(cellOf(times("a", 128), ""), cellOf(times("b", 128), ""), cellOf(times("c", 128), ""), longOf(times("d", 107), 7, 2000)),
		leafOf(longOf(times("\x00", 128), 2, 2048), longOf(times("\xff", 128), 2, 65)),
		leafOf(manyCells()...),
		innerOf([]int{4, 5}, "m"),
		innerOf([]int{2, 4095}, ""),
		innerOf([]int{4095, 2, 2, 257, 256}, "", "\x00", "\x00\x00", "a"),
		innerOf([]int{2, 3, 4}, k127, k128),
		innerOf([]int{2, 3, 4, 5, 6}, times("a", 128), times("b", 128), times("c", 128), times("d", 107)),
		innerOf([]int{17, 16}, times("\x00", 128)),
		manyKeys(),
	}
}

func sameCell(a, b Cell) bool {
	return bytes.Equal(a.Key, b.Key) && bytes.Equal(a.Value, b.Value) && a.Over == b.Over && a.Size == b.Size
}

func same(a, b Node) bool {
	return a.Leaf == b.Leaf && slices.EqualFunc(a.Cells, b.Cells, sameCell) && slices.EqualFunc(a.Keys, b.Keys, bytes.Equal) && slices.Equal(a.Kids, b.Kids)
}

// cloned is a node in memory of its own.
func cloned(n Node) Node {
	m := Node{Leaf: n.Leaf, Kids: slices.Clone(n.Kids)}
	for _, c := range n.Cells {
		m.Cells = append(m.Cells, Cell{slices.Clone(c.Key), slices.Clone(c.Value), c.Over, c.Size})
	}
	for _, k := range n.Keys {
		m.Keys = append(m.Keys, slices.Clone(k))
	}
	return m
}

// brief is the beginning of some bytes, as a failure tells it.
func brief(b []byte) []byte { return b[:min(len(b), 40)] }

// tell is a node in few words, as a failure tells it.
func tell(t *testing.T, n Node) {
	t.Helper()
	t.Logf("leaf %t, %d cells, %d keys, %d kids", n.Leaf, len(n.Cells), len(n.Keys), len(n.Kids))
	for i, c := range n.Cells[:min(len(n.Cells), 6)] {
		t.Logf("cell %d: key of %d %q, value of %d %q, over %d, size %d", i, len(c.Key), brief(c.Key), len(c.Value), brief(c.Value), c.Over, c.Size)
	}
	t.Logf("keys %q, kids %d", n.Keys[:min(len(n.Keys), 6)], n.Kids[:min(len(n.Kids), 6)])
}

// checkRight: n is right, want its load without the noughts at the end; both ways.
func checkRight(t *testing.T, n Node, want []byte) {
	t.Helper()
	if e := Check(n); e != api.OK {
		t.Errorf("Check: error %d", e)
	}
	if size := Size(n); size != len(want) {
		t.Errorf("Size: %d, want %d", size, len(want))
	}
	b, e := Encode(n)
	if !bytes.Equal(b, padded(want)) || e != api.OK {
		t.Errorf("Encode: %d bytes %v, error %d, want %v", len(b), brief(b), e, brief(want))
	}
	checkDecode(t, padded(want), n)
	if t.Failed() {
		tell(t, n)
		t.FailNow()
	}
}

// checkWrong: n is refused, and has this size.
func checkWrong(t *testing.T, n Node, want api.Errno, size int) {
	t.Helper()
	if e := Check(n); e != want {
		t.Errorf("Check: error %d, want %d", e, want)
	}
	if got := Size(n); got != size {
		t.Errorf("Size: %d, want %d", got, size)
	}
	if b, e := Encode(n); len(b) != 0 || e != want {
		t.Errorf("Encode: %d bytes, error %d, want none, %d", len(b), e, want)
	}
	if t.Failed() {
		tell(t, n)
		t.FailNow()
	}
}

func checkDecode(t *testing.T, b []byte, want Node) {
	t.Helper()
	if n, e := Decode(b); !same(n, want) || e != api.OK {
		t.Errorf("Decode(%v): error %d, the node %t", brief(b), e, same(n, want))
		tell(t, n)
	}
}

// checkCorrupt: b is no node's load.
func checkCorrupt(t *testing.T, b []byte) {
	t.Helper()
	if n, e := Decode(b); !same(n, Node{}) || e != api.ErrCorrupt {
		t.Errorf("Decode of %d bytes %v: error %d, want none, %d", len(b), brief(b), e, api.ErrCorrupt)
		tell(t, n)
	}
}

func checkPiece(t *testing.T, data []byte, next int, want []byte) {
	t.Helper()
	if b, e := Piece(data, next); !bytes.Equal(b, want) || e != api.OK {
		t.Errorf("Piece of %d bytes, next %d: %d bytes %v, error %d, want %v", len(data), next, len(b), brief(b), e, brief(want))
	}
}

func checkNoPiece(t *testing.T, data []byte, next int) {
	t.Helper()
	if b, e := Piece(data, next); len(b) != 0 || e != api.ErrField {
		t.Errorf("Piece of %d bytes, next %d: %d bytes, error %d, want none, %d", len(data), next, len(b), e, api.ErrField)
	}
}

func checkOpen(t *testing.T, b, data []byte, next int) {
	t.Helper()
	if d, n, e := Open(b); !bytes.Equal(d, data) || n != next || e != api.OK {
		t.Errorf("Open(%v): %d bytes %v, %d, error %d, want %d bytes %v, %d", brief(b), len(d), brief(d), n, e, len(data), brief(data), next)
	}
}

// checkNotOpen: b is no piece's load.
func checkNotOpen(t *testing.T, b []byte) {
	t.Helper()
	if d, n, e := Open(b); len(d) != 0 || n != 0 || e != api.ErrCorrupt {
		t.Errorf("Open of %d bytes %v: %d bytes, %d, error %d, want none, %d", len(b), brief(b), len(d), n, e, api.ErrCorrupt)
	}
}

// two is a number in two bytes.
func two(n int) []byte { return raw(byte(n%256), byte(n/256)) }

// plainPage tells whether a number is a page's.
func plainPage(n int) bool { return 2 <= n && n <= 4095 }

// plainKeys tells whether no key is longer than may be, and each below the next.
func plainKeys(keys []string) bool {
	return slices.IsSorted(keys) && len(slices.Compact(slices.Clone(keys))) == len(keys) && !slices.ContainsFunc(keys, func(k string) bool { return len(k) > 128 })
}

func keysOf(n Node) []string {
	keys := []string{}
	for _, c := range n.Cells {
		keys = append(keys, string(c.Key))
	}
	for _, k := range n.Keys {
		keys = append(keys, string(k))
	}
	return keys
}

// plainSize is the size of a node, by the chapter's words.
func plainSize(n Node) int {
	if !n.Leaf {
		return 5 + 3*len(n.Keys) + len(joined(n.Keys...))
	}
	size := 3
	for _, c := range n.Cells {
		size += 3 + len(c.Key)
		if c.Over == 0 {
			size += len(c.Value)
		} else {
			size += 2
		}
	}
	return size
}

// plainCheck is what is wrong with a node, by the chapter's words.
func plainCheck(n Node) api.Errno {
	right := plainKeys(keysOf(n))
	if n.Leaf {
		right = right && len(n.Cells) >= 1 && len(n.Keys)+len(n.Kids) == 0
		for _, c := range n.Cells {
			short := c.Over == 0 && len(c.Value) <= 64 && c.Size == len(c.Value)
			long := plainPage(c.Over) && len(c.Value) == 0 && 65 <= c.Size && c.Size <= 2048
			right = right && (short || long)
		}
	} else {
		right = right && len(n.Keys) >= 1 && len(n.Kids)-1 == len(n.Keys) && len(n.Cells) == 0
		for _, k := range n.Kids {
			right = right && plainPage(k)
		}
	}
	if !right {
		return api.ErrField
	}
	if plainSize(n) > 508 {
		return api.ErrLong
	}
	return api.OK
}

// laid is the bytes of a node, right or not, without noughts behind them and not
// cut off; count is how many cells or keys they say.
func laid(n Node, count int) []byte {
	parts := [][]byte{raw(2), two(count)}
	if n.Leaf {
		parts[0] = raw(1)
		for _, c := range n.Cells {
			parts = append(parts, raw(byte(len(c.Key))), c.Key, two(c.Size), c.Value)
			if c.Over != 0 {
				parts = append(parts, two(c.Over))
			}
		}
		return joined(parts...)
	}
	parts = append(parts, two(n.Kids[0]))
	for i, k := range n.Keys {
		parts = append(parts, raw(byte(len(k))), k, two(n.Kids[i+1]))
	}
	return joined(parts...)
}

// loadOf is the load of a right node.
func loadOf(n Node) []byte { return padded(laid(n, len(n.Cells)+len(n.Keys))) }

// plainNode is the node whose load b is, if it is one's: what b seems to say is
// gathered, whatever that is, looked at, and laid out anew.
func plainNode(b []byte) (Node, bool) {
	if len(b) != 508 || b[0] != 1 && b[0] != 2 {
		return Node{}, false
	}
	long := append(slices.Clone(b), make([]byte, 1<<10)...) // so that no place is behind the end
	count, at := int(b[1])+256*int(b[2]), 3
	number := func() int { at += 2; return int(long[at-2]) + 256*int(long[at-1]) }
	text := func(count int) []byte { at += count; return long[at-count : at] }
	key := func() []byte { at++; return text(int(long[at-1])) }
	n := Node{Leaf: b[0] == 1}
	if !n.Leaf {
		n.Kids = []int{number()}
	}
	for i := 0; i < count && at < 508; i++ {
		if !n.Leaf {
			n.Keys = append(n.Keys, key())
			n.Kids = append(n.Kids, number())
			continue
		}
		c := Cell{Key: key(), Size: number()}
		if c.Size > 64 {
			c.Over = number()
		} else {
			c.Value = text(c.Size)
		}
		n.Cells = append(n.Cells, c)
	}
	if len(n.Cells)+len(n.Keys) != count || plainCheck(n) != api.OK || !bytes.Equal(loadOf(n), b) {
		return Node{}, false
	}
	return n, true
}

// checkPlain holds Decode against what the chapter's words say of b.
func checkPlain(t *testing.T, b []byte) bool {
	t.Helper()
	n, ok := plainNode(b)
	if ok {
		checkDecode(t, b, n)
	} else {
		checkCorrupt(t, b)
	}
	return ok
}

// checkPlainPiece holds Open against what the chapter's words say of b.
func checkPlainPiece(t *testing.T, b []byte) bool {
	t.Helper()
	if len(b) == 508 && b[0] == 3 {
		next, count := int(b[1])+256*int(b[2]), int(b[3])+256*int(b[4])
		if (next == 0 || plainPage(next)) && 1 <= count && count <= 503 && bytes.Count(b[5+count:], raw(0)) == 503-count {
			checkOpen(t, b, b[5:5+count], next)
			return true
		}
	}
	checkNotOpen(t, b)
	return false
}
