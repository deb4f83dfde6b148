package node

import (
	"math"
	"math/rand"
	"slices"
	"testing"

	"quarry/api"
)

// wrongPages is numbers that are no page's, nought apart; the low two bytes of
// some are a page's.
func wrongPages() []int {
	return []int{1, 4096, 4097, 65535, 65536, 65536 + 9, 1<<32 + 9, -1, -2, -4095, 9 - 65536, math.MinInt, math.MaxInt}
}

// 8.1, 8.2: how many cells a leaf has.
func TestCells(t *testing.T) {
	checkWrong(t, leafOf(), api.ErrField, 3)
	checkWrong(t, Node{Leaf: true, Cells: []Cell{}, Keys: [][]byte{}, Kids: []int{}}, api.ErrField, 3)
	checkRight(t, leafOf(cellOf("a", "x")), raw(1, 1, 0, 1, 97, 1, 0, 120))
	checkRight(t, leafOf(cellOf("", "")), raw(1, 1, 0, 0, 0, 0))

	many := leafOf(manyCells()...)
	want := raw(1, 126, 0, 0, 0, 0)
	for c := range 124 {
		want = append(want, 1, byte(2*c+1), 0, 0)
	}
	want = append(want, 1, 255, 2, 0, 0, 1)
	checkRight(t, many, want)
	if len(want) != 508 {
		t.Errorf("the fullest leaf has %d bytes", len(want))
	}
	many.Cells = slices.Insert(many.Cells, 2, cellOf("\x02", ""))
	checkWrong(t, many, api.ErrLong, 512)
}

// 8.1, 8.2: how long a key is, in a leaf and between kids.
func TestKeyLengths(t *testing.T) {
	for _, count := range []int{0, 1, 2, 127, 128} {
		k := times("k", count)
		checkRight(t, leafOf(cellOf(k, "v")), joined(raw(1, 1, 0, byte(count)), []byte(k), raw(1, 0, 'v')))
		checkRight(t, leafOf(longOf(k, 258, 300)), joined(raw(1, 1, 0, byte(count)), []byte(k), raw(44, 1, 2, 1)))
		checkRight(t, innerOf([]int{3, 258}, k), joined(raw(2, 1, 0, 3, 0, byte(count)), []byte(k), raw(2, 1)))
		checkRight(t, leafOf(cellOf(k, ""), cellOf(times("l", 128), "")), joined(raw(1, 2, 0, byte(count)), []byte(k), raw(0, 0, 128), []byte(times("l", 128)), raw(0, 0)))
	}
	for _, count := range []int{129, 130, 255, 256, 257, 400, 505, 65536, 65537, 1 << 20} {
		k := times("k", count)
		checkWrong(t, leafOf(cellOf(k, "v")), api.ErrField, 3+3+count+1)
		checkWrong(t, leafOf(longOf(k, 9, 65)), api.ErrField, 3+3+count+2)
		checkWrong(t, leafOf(cellOf("a", ""), cellOf(k, "")), api.ErrField, 3+4+3+count)
		checkWrong(t, leafOf(cellOf(k, ""), cellOf("l", "")), api.ErrField, 3+3+count+4)
		checkWrong(t, innerOf([]int{3, 4}, k), api.ErrField, 5+3+count)
		checkWrong(t, innerOf([]int{3, 4, 5}, "a", k), api.ErrField, 5+4+3+count)
		checkWrong(t, innerOf([]int{3, 4, 5}, k, "l"), api.ErrField, 5+3+count+4)
	}
}

// 8.1: keys rise; a beginning stands ahead of what goes on; bytes have no sign.
func TestKeyOrder(t *testing.T) {
	rising := []string{"", "\x00", "\x00\x00", "\x00\x01", "\x01", "\x7f", "\x80", "\x80\x00", "A", "Z", "a", "aa", "ab", "b", "\xfe\xff", "\xff", "\xff\x00", "\xff\xff"}
	slices.Sort(rising)
	for i, a := range rising {
		for j, b := range rising {
			leaf, inner := leafOf(cellOf(a, "1"), longOf(b, 7, 70)), innerOf([]int{2, 3, 4}, a, b)
			if i < j {
				checkRight(t, leaf, laid(leaf, 2))
				checkRight(t, inner, laid(inner, 2))
			} else {
				checkWrong(t, leaf, api.ErrField, 3+3+len(a)+1+3+len(b)+2)
				checkWrong(t, inner, api.ErrField, 5+3+len(a)+3+len(b))
			}
		}
	}
	long := times("k", 127)
	for _, pair := range [][2]string{{long, long + "k"}, {long + "j", long + "k"}, {long + "\x7f", long + "\x80"}} {
		right, wrong := leafOf(cellOf(pair[0], ""), cellOf(pair[1], "")), leafOf(cellOf(pair[1], ""), cellOf(pair[0], ""))
		checkRight(t, right, laid(right, 2))
		checkWrong(t, wrong, api.ErrField, Size(right))
	}
}

// 8.1: one key that does not rise, wherever it stands, is wrong.
func TestKeyOrderAnywhere(t *testing.T) {
	for i := range 125 {
		leaf, inner := leafOf(manyCells()...), manyKeys()
		leaf.Cells[i+1].Key, inner.Keys[i+1] = leaf.Cells[i].Key, inner.Keys[i]
		checkWrong(t, leaf, api.ErrField, plainSize(leaf))
		checkWrong(t, inner, api.ErrField, plainSize(inner))
		leaf, inner = leafOf(manyCells()...), manyKeys()
		leaf.Cells[i], leaf.Cells[i+1] = leaf.Cells[i+1], leaf.Cells[i]
		inner.Keys[i], inner.Keys[i+1] = inner.Keys[i+1], inner.Keys[i]
		checkWrong(t, leaf, api.ErrField, 508)
		checkWrong(t, inner, api.ErrField, 508)
	}
}

// 8.1, 8.2: how long a value is that stands in its cell, and that Size says so.
func TestValues(t *testing.T) {
	for _, count := range []int{0, 1, 2, 63, 64} {
		v := times("v", count)
		checkRight(t, leafOf(cellOf("k", v)), joined(raw(1, 1, 0, 1, 'k', byte(count), 0), []byte(v)))
		for _, size := range []int{-1, 0, 1, 2, 3, 62, 63, 64, 65, 66, 100, 2048, 2049, count - 256, count + 256, count + 65536, math.MinInt, math.MaxInt} {
			if size != count {
				checkWrong(t, leafOf(Cell{Key: []byte("k"), Value: []byte(v), Size: size}), api.ErrField, 3+4+count)
				checkWrong(t, leafOf(cellOf("a", "x"), Cell{Key: []byte("k"), Value: []byte(v), Size: size}, cellOf("z", "x")), api.ErrField, 3+5+4+count+5)
			}
		}
	}
	for _, count := range []int{65, 66, 100, 255, 256, 500, 502, 503, 2048, 2049, 65536, 65600, 1 << 20} {
		for _, size := range []int{count, 0, 64, 65, count % 256, count % 65536, -1} {
			checkWrong(t, leafOf(Cell{Key: []byte("k"), Value: make([]byte, count), Size: size}), api.ErrField, 3+4+count)
		}
	}
}

// 8.1, 8.2: where a long value lies, and how long it is.
func TestLongValues(t *testing.T) {
	sizes := []int{65, 66, 255, 256, 257, 2047, 2048}
	wrongSizes := []int{0, 1, 63, 64, 2049, 2050, 4096, 65535, 65536, 65536 + 65, 65 - 65536, -1, -65, -2048, math.MinInt, math.MaxInt}
	for _, over := range []int{2, 3, 255, 256, 4094, 4095} {
		for _, size := range sizes {
			checkRight(t, leafOf(longOf("k", over, size)), joined(raw(1, 1, 0, 1, 'k'), two(size), two(over)))
			checkRight(t, leafOf(Cell{Key: []byte("k"), Value: []byte{}, Over: over, Size: size}), joined(raw(1, 1, 0, 1, 'k'), two(size), two(over)))
			for _, value := range []string{"v", times("v", 64), times("v", 65), times("v", size)} {
				checkWrong(t, leafOf(Cell{Key: []byte("k"), Value: []byte(value), Over: over, Size: size}), api.ErrField, 9)
				checkWrong(t, leafOf(Cell{Key: []byte("k"), Value: []byte(value), Over: over, Size: len(value)}), api.ErrField, 9)
			}
		}
		for _, size := range wrongSizes {
			checkWrong(t, leafOf(longOf("k", over, size)), api.ErrField, 9)
		}
	}
	for _, over := range wrongPages() {
		for _, size := range append(sizes, wrongSizes...) {
			checkWrong(t, leafOf(longOf("k", over, size)), api.ErrField, 9)
			checkWrong(t, leafOf(Cell{Key: []byte("k"), Value: []byte("v"), Over: over, Size: size}), api.ErrField, 9)
		}
	}
	for _, size := range sizes {
		checkWrong(t, leafOf(longOf("k", 0, size)), api.ErrField, 7)
	}
}

// 8.1: one wrong cell, or key, or kid, wherever it stands.
func TestWrongAnywhere(t *testing.T) {
	for i := range 126 {
		leaf := leafOf(manyCells()...)
		leaf.Cells[i].Size++
		checkWrong(t, leaf, api.ErrField, 508)
		leaf = leafOf(manyCells()...)
		leaf.Cells[i].Over = -1
		checkWrong(t, leaf, api.ErrField, plainSize(leaf))
	}
	for i := range 127 {
		for _, kid := range []int{0, 1, 4096, -1} {
			inner := manyKeys()
			inner.Kids[i] = kid
			checkWrong(t, inner, api.ErrField, 508)
		}
	}
}

// 8.1: a leaf has neither keys nor kids beside its cells; its size does not count them.
func TestLeafWithMore(t *testing.T) {
	n := leafOf(cellOf("a", "x"))
	for _, keys := range [][][]byte{nil, {}, {nil}, {{}}, {[]byte("m")}, {[]byte("m"), []byte("n")}} {
		for _, kids := range [][]int{nil, {}, {0}, {4}, {4, 5}, {4, 5, 6}} {
			n.Keys, n.Kids = keys, kids
			if len(keys)+len(kids) == 0 {
				checkRight(t, n, raw(1, 1, 0, 1, 97, 1, 0, 120))
			} else {
				checkWrong(t, n, api.ErrField, 8)
				checkWrong(t, Node{Leaf: true, Keys: keys, Kids: kids}, api.ErrField, 3)
			}
		}
	}
}

// 8.1, 8.2: how many keys a node has that is no leaf, and how many kids.
func TestKids(t *testing.T) {
	checkRight(t, innerOf([]int{2, 4095}, "m"), raw(2, 1, 0, 2, 0, 1, 'm', 255, 15))
	checkRight(t, innerOf([]int{4095, 2, 258}, "", "m"), raw(2, 2, 0, 255, 15, 0, 2, 0, 1, 'm', 2, 1))
	checkRight(t, innerOf([]int{7, 7, 7}, "a", "b"), raw(2, 2, 0, 7, 0, 1, 'a', 7, 0, 1, 'b', 7, 0))
	for kids := range 6 {
		n := innerOf([]int{4, 5, 6, 7, 8}[:kids])
		checkWrong(t, n, api.ErrField, 5)
		for keys := 1; keys < 6; keys++ {
			n.Keys = append(n.Keys, []byte{byte(keys)})
			if kids == keys+1 {
				checkRight(t, n, laid(n, keys))
			} else {
				checkWrong(t, n, api.ErrField, 5+4*keys)
			}
		}
	}
	checkWrong(t, Node{}, api.ErrField, 5)
	checkWrong(t, Node{Keys: [][]byte{}, Kids: []int{}, Cells: []Cell{}}, api.ErrField, 5)

	for _, kid := range append(wrongPages(), 0) {
		for i := range 3 {
			n := innerOf([]int{4, 5, 6}, "a", "b")
			n.Kids[i] = kid
			checkWrong(t, n, api.ErrField, 13)
		}
	}
}

// 8.1, 8.2: as many keys as fit between kids, and one more.
func TestManyKeys(t *testing.T) {
	n := manyKeys()
	checkRight(t, n, laid(n, 126))
	if Size(n) != 508 {
		t.Errorf("the fullest node has %d bytes", Size(n))
	}
	n.Keys, n.Kids = append(n.Keys, []byte{255}), append(n.Kids, 2)
	checkWrong(t, n, api.ErrLong, 512)
	n.Keys[126] = []byte{}
	checkWrong(t, n, api.ErrField, 511)
}

// 8.1: a node that is no leaf has no cells; its size does not count them.
func TestInnerWithCells(t *testing.T) {
	n := innerOf([]int{4, 5}, "m")
	n.Cells = []Cell{}
	checkRight(t, n, raw(2, 1, 0, 4, 0, 1, 109, 5, 0))
	for _, cells := range [][]Cell{{{}}, {cellOf("a", "x")}, manyCells()} {
		n.Cells = cells
		checkWrong(t, n, api.ErrField, 9)
		checkWrong(t, Node{Cells: cells}, api.ErrField, 5)
	}
}

// 8.1: a node of 508 bytes is right, of 509 too long; wrong besides, it is wrong.
func TestTooLong(t *testing.T) {
	leaf := func(last int) Node {
		return leafOf(cellOf(times("a", 128), times("v", 64)), cellOf(times("b", 128), times("v", 64)), cellOf(times("c", 48), times("v", last)))
	}
	inner := func(last int) Node {
		return innerOf([]int{2, 3, 4, 5, 6}, times("a", 128), times("b", 128), times("c", 128), times("d", last))
	}
	long := func(last int) Node {
		return leafOf(longOf(times("a", 128), 2, 65), longOf(times("b", 128), 2, 65), longOf(times("c", 128), 2, 65), longOf(times("d", last), 2, 65))
	}
	checkRight(t, leaf(63), laid(leaf(63), 3))
	checkRight(t, leaf(64), laid(leaf(64), 3))
	checkRight(t, inner(106), laid(inner(106), 4))
	checkRight(t, inner(107), laid(inner(107), 4))
	checkRight(t, long(101), laid(long(101), 4))

	tooLong := leaf(64)
	tooLong.Cells[2].Key = []byte(times("c", 49))
	checkWrong(t, tooLong, api.ErrLong, 509)
	checkWrong(t, inner(108), api.ErrLong, 509)
	checkWrong(t, inner(128), api.ErrLong, 529)
	checkWrong(t, long(102), api.ErrLong, 509)
	checkWrong(t, long(128), api.ErrLong, 535)

	for _, spoil := range []func(*Node){
		func(n *Node) { n.Cells[2].Key[0] = 'a' },
		func(n *Node) { n.Cells[1].Key[0] = 'd' },
		func(n *Node) { n.Cells[0].Size-- },
		func(n *Node) { n.Kids = []int{4} },
		func(n *Node) { n.Keys = [][]byte{[]byte("m")} },
	} {
		n := cloned(tooLong)
		spoil(&n)
		checkWrong(t, n, api.ErrField, 509)
	}
	for _, spoil := range []func(*Node){
		func(n *Node) { n.Keys[3][0] = 'a' },
		func(n *Node) { n.Keys[2][0] = 'e' },
		func(n *Node) { n.Kids[4] = 1 },
		func(n *Node) { n.Kids[0] = 4096 },
		func(n *Node) { n.Kids = n.Kids[:4] },
		func(n *Node) { n.Kids = append(n.Kids, 9) },
		func(n *Node) { n.Cells = []Cell{{}} },
	} {
		n := inner(108)
		spoil(&n)
		checkWrong(t, n, api.ErrField, 509)
	}
	checkWrong(t, leafOf(cellOf("a", times("v", 502))), api.ErrField, 509)
}

// 8.1: nodes with more cells and keys than two bytes count.
func TestVeryMany(t *testing.T) {
	for _, count := range []int{65535, 65536, 65537, 100000} {
		leaf, inner := Node{Leaf: true}, Node{Kids: []int{2}}
		for i := range count {
			key := []byte{byte(i >> 16), byte(i >> 8), byte(i)}
			leaf.Cells = append(leaf.Cells, Cell{Key: key})
			inner.Keys, inner.Kids = append(inner.Keys, key), append(inner.Kids, 3)
		}
		checkWrong(t, leaf, api.ErrLong, 3+6*count)
		checkWrong(t, inner, api.ErrLong, 5+6*count)
		leaf.Cells[count-1].Size, inner.Kids[count] = 1, 1
		checkWrong(t, leaf, api.ErrField, 3+6*count)
		checkWrong(t, inner, api.ErrField, 5+6*count)
	}
}

// pick is one of the usual, or seldom of the odd ones.
func pick(r *rand.Rand, usual, odd []int) int {
	if r.Intn(40) == 0 {
		return odd[r.Intn(len(odd))]
	}
	return usual[r.Intn(len(usual))]
}

// someCell is a cell by chance, most often a right one.
func someCell(r *rand.Rand) Cell {
	key := times("k", pick(r, []int{0, 1, 2, 5, 40, 127, 128}, []int{129, 300}))
	if r.Intn(3) == 0 {
		return longOf(key, pick(r, []int{2, 9, 4095}, wrongPages()), pick(r, []int{65, 300, 2048}, []int{64, 2049, 0, -1}))
	}
	c := cellOf(key, times("v", pick(r, []int{0, 1, 20, 63, 64}, []int{65, 300})))
	c.Size += pick(r, []int{0}, []int{-1, 1, 256})
	c.Over = pick(r, []int{0}, []int{1, 2, 4095, 4096, -1})
	return c
}

// someNode is a node by chance, right now and then.
func someNode(r *rand.Rand) Node {
	n := Node{Leaf: r.Intn(2) == 0}
	if !n.Leaf {
		n.Kids = make([]int, pick(r, []int{1}, []int{0, 2}))
	}
	for i := range r.Intn(8) {
		c := someCell(r)
		if len(c.Key) > 0 {
			c.Key[0] = byte(pick(r, []int{'a' + i}, []int{'a' + i - 1, 'a'}))
		}
		if n.Leaf {
			n.Cells = append(n.Cells, c)
		} else {
			n.Keys, n.Kids = append(n.Keys, c.Key), append(n.Kids, 0)
		}
	}
	for i := range n.Kids {
		n.Kids[i] = pick(r, []int{2, 9, 4095}, append(wrongPages(), 0))
	}
	if r.Intn(40) == 0 {
		n.Leaf = !n.Leaf
	}
	return n
}

// 8.1, 8.2: nodes by chance, held against the chapter's words.
func TestSomeNodes(t *testing.T) {
	r := rand.New(rand.NewSource(8))
	seen := map[api.Errno]int{}
	for range 100000 {
		n := someNode(r)
		e := plainCheck(n)
		seen[e]++
		if e == api.OK {
			checkRight(t, n, laid(n, len(n.Cells)+len(n.Keys)))
		} else {
			checkWrong(t, n, e, plainSize(n))
		}
	}
	for _, e := range []api.Errno{api.OK, api.ErrField, api.ErrLong} {
		if seen[e] < 1000 {
			t.Errorf("just %d nodes with the error %d", seen[e], e)
		}
	}
}
