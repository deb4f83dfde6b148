package node

import (
	"bytes"
	"math"
	"slices"
	"testing"
)

// dataOf is so many bytes, of which some are noughts, the last one among them.
func dataOf(count int) []byte {
	b := make([]byte, count)
	for i := range b {
		b[i] = byte((count - 1 - i) * 37)
	}
	return b
}

// datas is data that a piece may have.
func datas() [][]byte {
	l := [][]byte{raw(0), raw(1), raw(255), raw(0, 0), raw(7, 0), raw(0, 7), raw(1, 1, 0, 0, 0, 0), raw(3, 7, 0, 1, 0, 9)}
	for _, count := range []int{2, 3, 255, 256, 257, 502, 503} {
		l = append(l, dataOf(count), make([]byte, count), bytes.Repeat(raw(255), count))
	}
	return l
}

// nexts is what may stand behind a piece.
func nexts() []int { return []int{0, 2, 3, 9, 255, 256, 257, 4094, 4095} }

// wrongNexts is what may not.
func wrongNexts() []int {
	return []int{1, 4096, 4097, 65535, 65536, 65536 + 7, -1, -2, 7 - 65536, math.MinInt, math.MaxInt}
}

// pieceOf is the load of a piece, right or not; count is how many bytes it says.
func pieceOf(data []byte, next, count int) []byte {
	return padded(raw(3), two(next), two(count), data)
}

// 8.3, 8.4: pieces and their loads, both ways.
func TestPieces(t *testing.T) {
	checkPiece(t, []byte("hi"), 7, padded(raw(3, 7, 0, 2, 0, 'h', 'i')))
	checkPiece(t, raw(0), 0, padded(raw(3, 0, 0, 1)))
	checkPiece(t, raw(1), 2, padded(raw(3, 2, 0, 1, 0, 1)))
	checkPiece(t, bytes.Repeat(raw(9), 503), 4095, joined(raw(3, 255, 15, 247, 1), bytes.Repeat(raw(9), 503)))
	for _, data := range datas() {
		for _, next := range nexts() {
			b := pieceOf(data, next, len(data))
			checkPiece(t, data, next, b)
			checkOpen(t, b, data, next)
			d, n, _ := Open(b)
			checkPiece(t, d, n, b)
			checkCorrupt(t, b)
		}
	}
}

// 8.3: data of none or too many bytes, and pages that are none.
func TestWrongPieces(t *testing.T) {
	for _, next := range append(nexts(), wrongNexts()...) {
		checkNoPiece(t, nil, next)
		checkNoPiece(t, raw(), next)
		for _, count := range []int{504, 505, 508, 512, 1000, 2048, 65535, 65536, 65537, 65536 + 503, 1 << 20} {
			checkNoPiece(t, make([]byte, count), next)
		}
	}
	for _, next := range wrongNexts() {
		for _, data := range datas() {
			checkNoPiece(t, data, next)
		}
	}
}

// 8.3: loads that say what no piece has, field by field.
func TestWrongPieceLoads(t *testing.T) {
	for _, data := range datas() {
		for next := range 65536 {
			if len(data) == 2 || next < 3 || next > 65533 || 4090 < next && next < 4100 {
				checkPlainPiece(t, pieceOf(data, next, len(data)))
			}
		}
		for _, count := range []int{0, 1, 2, 255, 256, 502, 503, 504, 505, 508, 32768, 65535, len(data) - 1, len(data) + 1, len(data) + 256} {
			checkPlainPiece(t, pieceOf(data, 7, count))
		}
	}
	for count := range 65536 {
		checkPlainPiece(t, pieceOf(raw(5), 7, count))
	}
	for count := range 513 {
		want := checkPlainPiece(t, padded(raw(3, 7, 0), two(count), bytes.Repeat(raw(8), 503)))
		if want != (count == 503) {
			t.Errorf("a full page that says %d bytes: a piece %t", count, want)
		}
		want = checkPlainPiece(t, padded(raw(3, 7, 0), two(count)))
		if want != (count >= 1 && count <= 503) {
			t.Errorf("noughts that are said to be %d bytes: a piece %t", count, want)
		}
	}
}

// 8.3: a piece's load has 508 bytes, neither fewer nor more.
func TestPieceLengths(t *testing.T) {
	checkNotOpen(t, nil)
	checkNotOpen(t, raw())
	for _, data := range datas() {
		b := pieceOf(data, 7, len(data))
		for count := range 508 {
			checkNotOpen(t, b[:count])
			checkPlainPiece(t, padded(b[:count]))
		}
		for _, more := range []int{1, 4, 508, 1 << 16} {
			checkNotOpen(t, append(slices.Clone(b), make([]byte, more)...))
		}
		checkNotOpen(t, append(slices.Clone(b), 1))
		checkNotOpen(t, b[1:])
	}
	for _, count := range []int{1, 507, 508, 509, 512} {
		checkNotOpen(t, make([]byte, count))
		checkNotOpen(t, bytes.Repeat(raw(3), count))
	}
}

// 8.3, 8.4: each single byte of a piece's load turned: it is another piece's, or
// none's; a node's it is not, as long as its first byte is what it was.
func TestEachPieceByteTurned(t *testing.T) {
	others, none := 0, 0
	for _, data := range [][]byte{raw(0), raw(1), []byte("hi"), raw(1, 1, 0, 0, 0), dataOf(502), dataOf(503)} {
		for _, next := range []int{0, 2, 257, 4095} {
			b := pieceOf(data, next, len(data))
			for at, c := range b {
				for _, x := range turned(c, at < 5+min(len(data), 9)) {
					b[at] = x
					if checkPlainPiece(t, b) {
						others++
					} else {
						none++
					}
					checkPlain(t, b)
				}
				b[at] = c
			}
			checkOpen(t, b, data, next)
		}
	}
	if others < 1000 || none < 1000 {
		t.Errorf("%d are other pieces, %d none", others, none)
	}
}

// 8.4: a node's load is no piece's, nor the other way round: the first byte alone
// may make one of the other.
func TestEitherKind(t *testing.T) {
	for _, n := range rightNodes() {
		b := loadOf(n)
		checkNotOpen(t, b)
		b[0] = 3
		checkCorrupt(t, b)
		checkPlainPiece(t, b)
	}
	for first := range 256 {
		for _, rest := range [][]byte{
			raw(2, 0, 6, 0, 0, 3, 0, 1, 1, 4), // three kids, or six bytes ahead of the page 2
			raw(1, 0, 2, 0, 0, 3),             // two kids, or two bytes, but ahead of the page 1
			raw(1, 0, 0, 1, 0, 9),             // a cell, or 256 bytes, but ahead of the page 1
			raw(7, 0, 2, 0, 'h', 'i'),
		} {
			b := padded(raw(byte(first)), rest)
			node, piece := checkPlain(t, b), checkPlainPiece(t, b)
			if node && first != 1 && first != 2 || piece && first != 3 {
				t.Errorf("the first byte %d, then %v: a node %t, a piece %t", first, rest, node, piece)
			}
		}
	}
	checkDecode(t, padded(raw(2, 2, 0, 6, 0, 0, 3, 0, 1, 1, 4)), innerOf([]int{6, 3, 4}, "", "\x01"))
	checkOpen(t, padded(raw(3, 2, 0, 6, 0, 0, 3, 0, 1, 1, 4)), raw(0, 3, 0, 1, 1, 4), 2)
}
