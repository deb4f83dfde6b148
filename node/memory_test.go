package node

import (
	"bytes"
	"slices"
	"testing"

	"quarry/api"
)

// filled is memory of some bytes with seven of another kind in the room behind them.
func filled(b []byte) []byte {
	room := append(slices.Clone(b), bytes.Repeat(raw(0xEE), 7)...)
	return room[:len(b)]
}

// checkRoom: what lies behind the end of some bytes is as filled has laid it.
func checkRoom(t *testing.T, b []byte) {
	t.Helper()
	if !bytes.Equal(b[len(b):len(b)+7], bytes.Repeat(raw(0xEE), 7)) {
		t.Errorf("behind the end lies %v", b[len(b):len(b)+7])
	}
}

// roomy is a node all of whose lists have room behind them.
func roomy(n Node) Node {
	m := cloned(n)
	for i, c := range m.Cells {
		m.Cells[i].Key, m.Cells[i].Value = filled(c.Key), filled(c.Value)
	}
	for i, k := range m.Keys {
		m.Keys[i] = filled(k)
	}
	m.Cells = append(m.Cells, cellOf("behind", "the end"))[:len(m.Cells)]
	m.Keys = append(m.Keys, []byte("behind"))[:len(m.Keys)]
	m.Kids = append(m.Kids, 77)[:len(m.Kids)]
	return m
}

// 8.1, 8.2 with R4: a node that is handed in stays as it is, and what is answered
// stays apart from it when either is changed.
func TestMemoryOfNodes(t *testing.T) {
	for _, n := range rightNodes() {
		m := roomy(n)
		Size(m)
		Check(m)
		b, _ := Encode(m)
		two, _ := Encode(m)
		if !same(m, n) {
			t.Error("the node has become another")
		}
		for _, c := range m.Cells {
			checkRoom(t, c.Key)
			checkRoom(t, c.Value)
		}
		for _, k := range m.Keys {
			checkRoom(t, k)
		}
		if c := m.Cells[:len(m.Cells)+1][len(m.Cells)]; !sameCell(c, cellOf("behind", "the end")) {
			t.Error("the cell behind the end has become another")
		}
		if k := m.Keys[:len(m.Keys)+1][len(m.Keys)]; string(k) != "behind" || m.Kids[:len(m.Kids)+1][len(m.Kids)] != 77 {
			t.Error("the key or the kid behind the end has become another")
		}
		overwrite(b)
		if !same(m, n) || !bytes.Equal(two, loadOf(n)) {
			t.Error("the load shares memory with the node, or with another load")
		}
		for _, l := range listsOf(&m) {
			overwrite(*l)
		}
		clear(m.Cells)
		clear(m.Keys)
		clear(m.Kids)
		if !bytes.Equal(two, loadOf(n)) {
			t.Error("the load changes with the node")
		}
	}
}

// overwrite fills some bytes, and the room behind them.
func overwrite(b []byte) {
	b = b[:cap(b)]
	for i := range b {
		b[i] = 0xDD
	}
}

// listsOf is all keys and values of a node.
func listsOf(n *Node) []*[]byte {
	l := []*[]byte{}
	for i := range n.Cells {
		l = append(l, &n.Cells[i].Key, &n.Cells[i].Value)
	}
	for i := range n.Keys {
		l = append(l, &n.Keys[i])
	}
	return l
}

// 8.2 with R4: a load that is handed in stays as it is, and what is answered stays
// apart from it, from other answers, and each of its lists from the others.
func TestMemoryOfLoads(t *testing.T) {
	for _, n := range rightNodes() {
		b := filled(loadOf(n))
		one, _ := Decode(b)
		other, _ := Decode(b)
		for i, l := range listsOf(&one) {
			was := slices.Clone(*l)
			overwrite(*l)
			*l = was
			if !same(one, n) {
				t.Fatalf("the list %d shares memory with another", i)
			}
		}
		for _, l := range listsOf(&one) {
			overwrite(*l)
		}
		overwriteKids(one.Kids)
		clear(one.Cells[:cap(one.Cells)])
		clear(one.Keys[:cap(one.Keys)])
		if !bytes.Equal(b, loadOf(n)) || !same(other, n) {
			t.Error("the node shares memory with its load, or with another node")
		}
		checkRoom(t, b)
		overwrite(b)
		if !same(other, n) {
			t.Error("the node changes with its load")
		}
	}
}

func overwriteKids(kids []int) {
	kids = kids[:cap(kids)]
	for i := range kids {
		kids[i] = -7
	}
}

// 8.3 with R4: data and loads of pieces likewise.
func TestMemoryOfPieces(t *testing.T) {
	for _, data := range datas() {
		want := pieceOf(data, 9, len(data))
		d := filled(data)
		one, _ := Piece(d, 9)
		other, _ := Piece(d, 9)
		overwrite(one)
		if !bytes.Equal(d, data) || !bytes.Equal(other, want) {
			t.Error("a load shares memory with its data, or with another load")
		}
		checkRoom(t, d)
		overwrite(d)
		if !bytes.Equal(other, want) {
			t.Error("the load changes with the data")
		}

		b := filled(want)
		one, _, _ = Open(b)
		other, _, _ = Open(b)
		overwrite(one)
		if !bytes.Equal(b, want) || !bytes.Equal(other, data) {
			t.Error("the data shares memory with its load, or with other data")
		}
		checkRoom(t, b)
		overwrite(b)
		if !bytes.Equal(other, data) {
			t.Error("the data changes with the load")
		}
	}
}

// R4: what is refused stays as it is, too.
func TestMemoryOfRefused(t *testing.T) {
	wrong := roomy(leafOf(cellOf("b", "x"), cellOf("a", "y")))
	was := cloned(wrong)
	if b, e := Encode(wrong); b != nil || e != api.ErrField || !same(wrong, was) {
		t.Errorf("Encode: %v, error %d, the node as it was %t", brief(b), e, same(wrong, was))
	}
	b := filled(bytes.Repeat(raw(1), 508))
	Decode(b)
	Open(b)
	if !bytes.Equal(b, bytes.Repeat(raw(1), 508)) {
		t.Error("a refused load has become another")
	}
	checkRoom(t, b)
	d := filled(make([]byte, 504))
	Piece(d, 1)
	if !bytes.Equal(d, make([]byte, 504)) {
		t.Error("refused data has become other")
	}
	checkRoom(t, d)
}
