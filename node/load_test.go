package node

import (
	"bytes"
	"math/rand"
	"slices"
	"testing"

	"quarry/api"
)

// The chapter's examples, both ways.
func TestExamples(t *testing.T) {
	checkRight(t, leafOf(cellOf("a", "x"), longOf("b", 9, 100)), raw(1, 2, 0, 1, 97, 1, 0, 120, 1, 98, 100, 0, 9, 0))
	checkWrong(t, leafOf(), api.ErrField, 3)
	checkRight(t, innerOf([]int{4, 5}, "m"), raw(2, 1, 0, 4, 0, 1, 109, 5, 0))
	b, e := Piece([]byte("hi"), 7)
	if e != api.OK {
		t.Errorf("Piece: error %d", e)
	}
	checkOpen(t, b, []byte("hi"), 7)
}

// 8.2, 8.4: the load of each right node, and back.
func TestBothWays(t *testing.T) {
	for _, n := range rightNodes() {
		checkRight(t, n, laid(n, len(n.Cells)+len(n.Keys)))
		b, _ := Encode(n)
		m, _ := Decode(b)
		again, e := Encode(m)
		if !bytes.Equal(again, b) || e != api.OK {
			t.Errorf("Encode of Decode: %v, error %d, want %v", brief(again), e, brief(b))
		}
	}
}

// 8.2: a load has 508 bytes, neither fewer nor more.
func TestLoadLengths(t *testing.T) {
	checkCorrupt(t, nil)
	checkCorrupt(t, raw())
	for _, n := range rightNodes() {
		b := loadOf(n)
		for count := range 508 {
			checkCorrupt(t, b[:count])
		}
		checkDecode(t, b, n)
		for _, more := range []int{1, 2, 4, 508, 1 << 16, 1 << 20} {
			checkCorrupt(t, append(slices.Clone(b), make([]byte, more)...))
		}
		checkCorrupt(t, append(slices.Clone(b), 1))
		checkCorrupt(t, append(raw(0), b[:507]...))
		checkCorrupt(t, b[1:])
	}
	for _, count := range []int{1, 507, 508, 509, 512} {
		checkCorrupt(t, make([]byte, count))
		checkCorrupt(t, bytes.Repeat(raw(1), count))
		checkCorrupt(t, bytes.Repeat(raw(2), count))
		checkCorrupt(t, bytes.Repeat(raw(3), count))
		checkCorrupt(t, bytes.Repeat(raw(255), count))
	}
}

// 8.2: the first byte says what a load is of; no other kind's load is read.
func TestFirstByte(t *testing.T) {
	for _, n := range rightNodes() {
		b := loadOf(n)
		for first := range 256 {
			b[0] = byte(first)
			if ok := checkPlain(t, b); first != 1 && first != 2 && ok {
				t.Errorf("the first byte %d is a node's", first)
			}
		}
	}
	// the bytes of one kind that begin as the other
	checkCorrupt(t, padded(raw(2, 2, 0, 1, 97, 1, 0, 120, 1, 98, 100, 0, 9, 0)))
	checkDecode(t, padded(raw(1, 1, 0, 4, 0, 1, 109, 5, 0)), leafOf(cellOf("\x00\x01m\x05", "")))
}

// 8.2: a count of none, of one too many or too few, and of the most that can be said.
func TestCounts(t *testing.T) {
	for _, n := range rightNodes() {
		right := len(n.Cells) + len(n.Keys)
		for _, count := range []int{0, right - 1, right + 1, right + 2, 255, 256, right + 256, right * 256, 32767, 32768, 65534, 65535} {
			if count != right {
				checkCorrupt(t, padded(laid(n, count)))
			}
		}
	}
	// what is said to be there would be right, if it were
	checkCorrupt(t, padded(raw(1, 0, 0)))
	checkDecode(t, padded(raw(1, 1, 0)), leafOf(cellOf("", "")))
	checkCorrupt(t, padded(raw(1, 2, 0)))
	checkCorrupt(t, padded(raw(2, 0, 0, 4, 0)))
	checkCorrupt(t, padded(raw(2, 0, 0)))
	checkCorrupt(t, padded(raw(2, 1, 0, 4, 0)))
	checkDecode(t, padded(raw(2, 1, 0, 4, 0, 0, 5, 0)), innerOf([]int{4, 5}, ""))
	checkCorrupt(t, padded(raw(2, 2, 0, 4, 0, 0, 5, 0)))
}

// 8.2: a load whose bytes would go on behind its end.
func TestCutOff(t *testing.T) {
	long := []Node{
		leafOf(cellOf(times("a", 128), times("v", 64)), cellOf(times("b", 128), times("v", 64)), cellOf(times("c", 128), times("v", 64))),
		leafOf(longOf(times("a", 128), 258, 259), longOf(times("b", 128), 258, 259), longOf(times("c", 128), 258, 259), longOf(times("d", 128), 258, 259)),
		innerOf([]int{258, 259, 260, 261, 262}, times("a", 128), times("b", 128), times("c", 128), times("d", 128)),
	}
	for i := range 130 {
		// the first key's length moves the end of the load through the fields of the last
		for _, n := range long {
			m := cloned(n)
			if m.Leaf {
				m.Cells[0].Key = m.Cells[0].Key[:max(128-i, 0)]
			} else {
				m.Keys[0] = m.Keys[0][:max(128-i, 0)]
			}
			b := laid(m, len(m.Cells)+len(m.Keys))
			if len(b) > 508 {
				checkCorrupt(t, b[:508])
				checkCorrupt(t, b)
			} else {
				checkDecode(t, padded(b), m)
			}
		}
	}
	for _, n := range rightNodes() {
		b := loadOf(n)
		for count := range 508 {
			checkPlain(t, padded(b[:count])) // noughts from some place on
			checkPlain(t, append(b[:count:count], bytes.Repeat(raw(255), 508-count)...))
		}
	}
}

// 8.2: behind a node's end lie noughts alone.
func TestBehindTheEnd(t *testing.T) {
	for _, n := range rightNodes() {
		b := loadOf(n)
		for at := Size(n); at < 508; at++ {
			for _, c := range raw(1, 2, 128, 255) {
				b[at] = c
				checkCorrupt(t, b)
			}
			b[at] = 0
		}
		checkDecode(t, b, n)
	}
}

// turned is what a byte may become: all others, or of a great many some.
func turned(c byte, all bool) []byte {
	l := raw()
	if all {
		for x := range 256 {
			l = append(l, byte(x))
		}
	} else {
		for bit := range 8 {
			l = append(l, c^1<<bit)
		}
		l = append(l, c+1, c-1, c^255, 0, 255)
	}
	return slices.DeleteFunc(l, func(x byte) bool { return x == c })
}

// 8.2: each single byte of a load turned: it is another node's, or none's.
func TestEachByteTurned(t *testing.T) {
	others, none := 0, 0
	for _, n := range rightNodes() {
		b := loadOf(n)
		for at, c := range b {
			for _, x := range turned(c, at < 16 || Size(n) < 100 && at < Size(n)) {
				b[at] = x
				if checkPlain(t, b) {
					others++
				} else {
					none++
				}
				checkNotOpen(t, b)
			}
			b[at] = c
		}
		checkDecode(t, b, n)
	}
	if others < 1000 || none < 1000 {
		t.Errorf("%d are other nodes, %d none", others, none)
	}
}

// 8.2: loads that say what no right node has, field by field.
func TestWrongFields(t *testing.T) {
	cell := func(size, over int) []byte {
		return padded(raw(1, 1, 0, 1, 97), two(size), two(over))
	}
	for _, size := range []int{65, 66, 255, 256, 2047, 2048} {
		for _, over := range []int{2, 3, 255, 256, 4094, 4095} {
			checkDecode(t, cell(size, over), leafOf(longOf("a", over, size)))
		}
		for _, over := range []int{0, 1, 4096, 4097, 32768, 65535} {
			checkCorrupt(t, cell(size, over))
		}
	}
	for _, size := range []int{2049, 2050, 4096, 32768, 65535, 65 << 8} {
		for _, over := range []int{0, 1, 2, 9, 4095, 4096} {
			checkCorrupt(t, cell(size, over))
		}
	}
	checkCorrupt(t, cell(1, 0x0909)) // a value of one byte, and one behind it
	checkDecode(t, cell(1, 9), leafOf(cellOf("a", "\x09")))
	checkDecode(t, cell(64, 9), leafOf(cellOf("a", "\x09"+times("\x00", 63))))
	for _, kid := range []int{0, 1, 4096, 32768, 65535} {
		checkCorrupt(t, padded(raw(2, 1, 0), two(kid), raw(1, 'm'), two(5)))
		checkCorrupt(t, padded(raw(2, 1, 0), two(4), raw(1, 'm'), two(kid)))
	}
	for count := range 256 {
		key := times("k", count)
		leaf := padded(raw(1, 1, 0, byte(count)), []byte(key), raw(1, 0, 'v'))
		inner := padded(raw(2, 1, 0, 4, 0, byte(count)), []byte(key), raw(5, 0))
		if count <= 128 {
			checkDecode(t, leaf, leafOf(cellOf(key, "v")))
			checkDecode(t, inner, innerOf([]int{4, 5}, key))
		} else {
			checkCorrupt(t, leaf)
			checkCorrupt(t, inner)
		}
	}
	for _, pair := range [][2]string{{"a", "a"}, {"b", "a"}, {"ab", "a"}, {"\xff", "\x7f"}, {"", ""}, {"a", ""}} {
		leaf, inner := leafOf(cellOf(pair[0], ""), cellOf(pair[1], "")), innerOf([]int{2, 3, 4}, pair[0], pair[1])
		checkCorrupt(t, loadOf(leaf))
		checkCorrupt(t, loadOf(inner))
		slices.Reverse(leaf.Cells)
		slices.Reverse(inner.Keys)
		if pair[0] != pair[1] {
			checkDecode(t, loadOf(leaf), leaf)
			checkDecode(t, loadOf(inner), inner)
		}
	}
}

// 8.2, 8.4 with R1: loads by chance, most of them near a node's, held against the
// chapter's words; what is read is written as it was.
func TestSomeLoads(t *testing.T) {
	r := rand.New(rand.NewSource(80))
	loads := [][]byte{}
	for _, n := range rightNodes() {
		loads = append(loads, loadOf(n))
	}
	read := 0
	for i := range 100000 {
		var b []byte
		if i%4 == 0 {
			b = make([]byte, 508)
			for at := range r.Intn(509) {
				b[at] = byte(r.Intn(5))
			}
		} else {
			b = slices.Clone(loads[r.Intn(len(loads))])
			for range 1 + r.Intn(3) {
				b[min(r.Intn(508), r.Intn(508))] = byte(r.Intn(256) >> r.Intn(8))
			}
		}
		if checkPlain(t, b) {
			read++
			n, _ := Decode(b)
			if again, e := Encode(n); !bytes.Equal(again, b) || e != api.OK {
				t.Errorf("Encode of Decode: error %d", e)
			}
		}
		checkPlainPiece(t, b)
		if t.Failed() {
			t.FailNow()
		}
	}
	if read < 1000 {
		t.Errorf("just %d of them were nodes'", read)
	}
}

// 8.4: a right leaf cut between any two cells: both parts are right, and 3 bytes
// longer together; so are two neighbouring parts within it.
func TestLeafCut(t *testing.T) {
	leaves := slices.DeleteFunc(rightNodes(), func(n Node) bool { return !n.Leaf })
	r := rand.New(rand.NewSource(84))
	for len(leaves) < 300 {
		if n := someNode(r); n.Leaf && plainCheck(n) == api.OK && len(n.Cells) > 1 {
			leaves = append(leaves, n)
		}
	}
	for _, n := range leaves {
		for cut := 1; cut < len(n.Cells); cut++ {
			checkCut(t, n.Cells, cut)
		}
		for from := range min(len(n.Cells), 9) {
			for to := from + 1; to <= min(len(n.Cells), 9); to++ {
				for cut := 1; cut < to-from; cut++ {
					checkCut(t, n.Cells[from:to], cut)
				}
			}
		}
	}
}

func checkCut(t *testing.T, cells []Cell, cut int) {
	t.Helper()
	whole, left, right := leafOf(cells...), leafOf(cells[:cut]...), leafOf(cells[cut:]...)
	if Check(left) != api.OK || Check(right) != api.OK {
		t.Errorf("%d cells, cut behind %d: errors %d and %d", len(cells), cut, Check(left), Check(right))
	}
	if Size(left)+Size(right) != Size(whole)+3 {
		t.Errorf("%d cells, cut behind %d: sizes %d and %d, of %d", len(cells), cut, Size(left), Size(right), Size(whole))
	}
	for _, part := range []Node{left, right} {
		b, e := Encode(part)
		if e != api.OK || !bytes.Equal(b, loadOf(part)) {
			t.Errorf("Encode of a part: error %d", e)
		}
		checkDecode(t, b, part)
	}
}
