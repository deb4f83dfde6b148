package catalog

import (
	"fmt"
	"math/rand"
	"slices"
	"strings"
	"testing"

	"quarry/api"
	"quarry/node"
)

// wrongRows is catalogs that are those of no right schema, by what is wrong with them.
func wrongRows(t *testing.T) map[string]map[string]string {
	of := func(l ...api.Value) string { return stored(t, l...) }
	tt := func(name string, l ...api.Value) string {
		return of(slices.Concat([]api.Value{text("table"), text(name)}, l)...)
	}
	ix := func(name, table string, l ...api.Value) string {
		return of(slices.Concat([]api.Value{text("index"), text(name), text(table)}, l)...)
	}
	a := []api.Value{text("a"), number(api.Int), truth(true)}
	right, rightIndex := tt("t", a...), ix("i", "t", truth(false), number(0), truth(false))
	wrong := map[string]map[string]string{
		"an index of no table":        {keyAt(1): rightIndex},
		"an index of another table":   {keyAt(1): right, keyAt(2): ix("i", "u", truth(false), number(0), truth(false))},
		"a table's name twice":        {keyAt(1): right, keyAt(2): right},
		"an index's name twice":       {keyAt(1): right, keyAt(2): rightIndex, keyAt(3): rightIndex},
		"an index's name, other case": {keyAt(1): right, keyAt(2): ix("I", "t", truth(false), number(0), truth(false))},
		"33 tables":                   laid(t, numbered(33, 0)),
		"33 indexes":                  laid(t, numbered(1, 33)),
		"33 of both":                  laid(t, numbered(33, 33)),
	}
	for name, key := range map[string]string{
		"no Id": "\x00\x00\x00\x00", "one byte of an Id": "\x00\x00\x00\x00\x01", "three bytes of an Id": "\x00\x00\x00\x00\x00\x00\x01", "five bytes of an Id": "\x00\x00\x00\x00\x00\x00\x00\x00\x01", "a byte too many": keyAt(1) + "\x00",
		"an Id and more": keyAt(5) + strings.Repeat("\x00", 120), "noughts and an Id": "\x00\x00\x00\x00\x00\x00\x00\x00\x00\x00\x00\x05", "the Id 0": keyAt(0), "the Id 2^31": keyAt(1 << 31), "the Id 2^32 - 1": keyAt(1<<32 - 1), "the Id -2^31 + 1": keyAt(1<<31 + 1),
	} {
		wrong[name] = map[string]string{key: right}
		wrong[name+", beside others"] = both(laid(t, some()), map[string]string{key: tt("fine", a...)})
	}
	sixteen := []api.Value{truth(true)}
	for i := range 16 {
		sixteen = append(sixteen, number(i), truth(false))
	}
	var seventeen []api.Value
	for _, c := range wide(0, "", 17).Cols {
		seventeen = append(seventeen, text(c.Name), number(c.Type), truth(c.NotNull))
	}
	for i, value := range []string{
		// no rows at all
		"", "\x00\x00", "\x01", "\x08\x03\x05table", "table", right + "\x00", right[:len(right)-1], "\x80\x00", "\x01\x05", "\x01\x01\x02", strings.Repeat("\xff", 2048), "\x04" + right[1:], "\x06" + right[1:],
		// no word, another one, another kind
		of(), of(number(1)), of(text("")), of(text("Table"), text("t"), a[0], a[1], a[2]), of(text("tables"), text("t"), a[0], a[1], a[2]), of(text("view"), text("t"), a[0], a[1], a[2]), of(text("INDEX"), text("i"), text("t"), truth(false), number(0), truth(false)),
		of(api.Value{Kind: api.Blob, Text: "table"}, text("t"), a[0], a[1], a[2]), of(api.Value{}, text("t"), a[0], a[1], a[2]),
		// a table without a name, without columns, with too many, with one that ends too early
		of(text("table")), tt("t"), tt("t", seventeen...), tt("t", a[0]), tt("t", a[:2]...), tt("t", append(slices.Clone(a), text("b"))...), tt("t", append(slices.Clone(a), text("b"), number(2))...), tt("t", append(slices.Clone(a), api.Value{})...),
		// values of the wrong kind
		of(text("table"), number(1), a[0], a[1], a[2]), of(text("table"), api.Value{Kind: api.Blob, Text: "t"}, a[0], a[1], a[2]), of(text("table"), api.Value{}, a[0], a[1], a[2]), tt("t", number(7), a[1], a[2]), tt("t", api.Value{Kind: api.Blob, Text: "a"}, a[1], a[2]), tt("t", api.Value{}, a[1], a[2]),
		tt("t", a[0], truth(true), a[2]), tt("t", a[0], text("2"), a[2]), tt("t", a[0], api.Value{}, a[2]), tt("t", a[0], a[1], number(1)), tt("t", a[0], a[1], text("")), tt("t", a[0], a[1], api.Value{}),
		// names that are not right, or there twice
		tt("", a...), tt("T", a...), tt("1", a...), tt("select", a...), tt(strings.Repeat("t", 25), a...), tt("t t", a...), tt("t\x00", a...), tt("t", text(""), a[1], a[2]), tt("t", text("A"), a[1], a[2]), tt("t", text("int"), a[1], a[2]), tt("t", text(strings.Repeat("a", 25)), a[1], a[2]), tt("t", slices.Concat(a, a)...), tt("t", slices.Concat(a, []api.Value{text("a"), number(3), truth(false)})...),
		// types that are none
		tt("t", a[0], number(0), a[2]), tt("t", a[0], number(5), a[2]), tt("t", a[0], number(-1), a[2]), tt("t", a[0], number(258), a[2]), tt("t", a[0], number(1<<32+2), a[2]), tt("t", a[0], number(-1<<63), a[2]), tt("t", a[0], number(1<<63-1), a[2]),
		// indexes of the table w, which has 16 columns
		of(text("index")), of(text("index"), text("i")), of(text("index"), text("i"), text("w")), ix("i", "w"), ix("i", "w", truth(true)), ix("i", "w", truth(true), number(0)), ix("i", "w", truth(true), number(0), truth(true), number(1)), ix("i", "w", truth(true), number(0), truth(true), api.Value{}), ix("i", "w", number(0), truth(true)), ix("i", "w", number(1), number(0), truth(true)), ix("i", "w", text(""), number(0), truth(true)), ix("i", "w", api.Value{}, number(0), truth(true)),
		ix("i", "w", truth(true), truth(false), truth(true)), ix("i", "w", truth(true), text("0"), truth(true)), ix("i", "w", truth(true), api.Value{}, truth(true)), ix("i", "w", truth(true), number(0), number(0)), ix("i", "w", truth(true), number(0), api.Value{}), ix("i", "w", truth(true), text("a"), number(0), truth(true)),
		of(text("index"), number(1), text("w"), truth(true), number(0), truth(true)), of(text("index"), text("i"), number(1), truth(true), number(0), truth(true)), of(text("index"), text("i"), api.Value{Kind: api.Blob, Text: "w"}, truth(true), number(0), truth(true)), of(text("index"), api.Value{}, text("w"), truth(true), number(0), truth(true)),
		ix("", "w", truth(true), number(0), truth(true)), ix("index", "w", truth(true), number(0), truth(true)), ix("I", "w", truth(true), number(0), truth(true)), ix("0", "w", truth(true), number(0), truth(true)), ix(strings.Repeat("i", 25), "w", truth(true), number(0), truth(true)), ix("i", "", truth(true), number(0), truth(true)), ix("i", "W", truth(true), number(0), truth(true)), ix("i", "i", truth(true), number(0), truth(true)),
		ix("i", "w", truth(true), number(16), truth(true)), ix("i", "w", truth(true), number(-1), truth(true)), ix("i", "w", truth(true), number(1<<32), truth(true)), ix("i", "w", truth(true), number(-1<<63), truth(true)), ix("i", "w", truth(true), number(3), truth(true), number(3), truth(true)), ix("i", "w", truth(true), number(3), truth(true), number(4), truth(true), number(3), truth(false)),
		ix("i", "w", append(sixteen, number(0), truth(true))...), ix("i", "w", append(sixteen, number(16), truth(true))...),
	} {
		w := laid(t, schema(tables(wide(8, "w", 16))))
		wrong[fmt.Sprintf("alone, %d", i)] = map[string]string{keyAt(1): value}
		wrong[fmt.Sprintf("ahead of others, %d", i)] = both(w, map[string]string{keyAt(1): value})
		wrong[fmt.Sprintf("behind others, %d", i)] = both(w, map[string]string{keyAt(9): value})
	}
	return wrong
}

// 11.6: rows that are not those of a right schema: ErrCorrupt; a Save of a right one
// mends it.
func TestWrongRows(t *testing.T) {
	for name, values := range wrongRows(t) {
		t.Run(name, func(t *testing.T) {
			t.Parallel()
			w := fresh(t, 700)
			root := w.putAll(t, w.putAll(t, 0, map[string]string{"": "x", "\x00\x00\x00\x01": "y"}), values)
			w.checkLoadFails(t, root, api.ErrCorrupt)
			mended := w.save(t, root, some())
			w.checkLoad(t, mended, some())
			w.checkAll(t, mended, both(laid(t, some()), map[string]string{"": "x", "\x00\x00\x00\x01": "y"}))
		})
	}
}

// 11.6: the edges that are right yet: the values of TestWrongRows are wrong for their
// own reasons.
func TestRightRows(t *testing.T) {
	t.Parallel()
	for _, s := range []api.Schema{
		{}, numbered(32, 32), full(), numbered(1, 32), numbered(32, 0),
		schema(tables(table(1<<31-1, strings.Repeat("t", 24), needed(strings.Repeat("a", 24), api.Bool))), unique(index(1, strings.Repeat("t", 24), strings.Repeat("t", 24), -1))),
		schema(tables(wide(8, "w", 16)), index(1, "i", "w", 15, 0, -2)), schema(tables(wide(8, "w", 16)), index(9, "w", "w", 15)),
	} {
		w := fresh(t, 1000)
		w.checkLoad(t, w.putAll(t, w.putAll(t, 0, others()), laid(t, s)), s)
	}
}

// ways is, of each key of a tree, rising, the pages that lead to it, with those of its
// long value.
func (w *world) ways(page int, above []int) (keys []string, pages [][]int) {
	load, _ := w.p.Read(page)
	n, _ := node.Decode(load)
	above = append(slices.Clone(above), page)
	for _, c := range n.Cells {
		way := slices.Clone(above)
		for piece := c.Over; piece != 0; {
			way = append(way, piece)
			load, _ := w.p.Read(piece)
			_, piece, _ = node.Open(load)
		}
		keys, pages = append(keys, string(c.Key)), append(pages, way)
	}
	for _, kid := range n.Kids {
		k, p := w.ways(kid, above)
		keys, pages = append(keys, k...), append(pages, p...)
	}
	return keys, pages
}

// 11.6: Load tells a damaged page that leads to a row of the catalog, or has a part of
// one; those that it need not read do not matter.
func TestDamagedPages(t *testing.T) {
	t.Parallel()
	for name, s := range map[string]api.Schema{"some": some(), "full": full(), "none": {}} {
		t.Run(name, func(t *testing.T) {
			w := fresh(t, 2000)
			root := w.save(t, w.putAll(t, 0, others()), s)
			keys, ways := w.ways(root, nil)
			rows, around := map[int]int{}, map[int]int{}
			for i, key := range keys {
				if strings.HasPrefix(key, "\x00\x00\x00\x00") {
					for _, page := range ways[i] {
						rows[page]++
					}
				} else if i+1 < len(keys) && strings.HasPrefix(keys[i+1], "\x00\x00\x00\x00") || i > 0 && strings.HasPrefix(keys[i-1], "\x00\x00\x00\x00") || name == "none" && key < "\x00\x00\x00\x02" {
					for _, page := range ways[i] {
						around[page]++
					}
				}
			}
			pages, _ := w.s.Pages(root)
			unneeded := 0
			for _, page := range pages {
				was, _ := w.d.Read(page)
				turned := slices.Clone(was)
				turned[page*31%512] ^= 1
				w.d.Write(page, turned)
				switch {
				case rows[page] > 0:
					w.checkLoadFails(t, root, api.ErrCorrupt)
					if made, e := Save(w.s, w.p, root, s); made != 0 || e != api.ErrCorrupt {
						t.Fatalf("Save over the damaged page %d: the root %d, error %d", page, made, e)
					}
				case around[page] == 0:
					w.checkLoad(t, root, s)
					unneeded++
				default:
					if got, e := Load(w.s, w.p, root); e != api.ErrCorrupt && tell(got) != tell(s) {
						t.Fatalf("Load: %s, error %d", tell(got), e)
					}
				}
				w.d.Write(page, was)
			}
			if unneeded == 0 {
				t.Error("all pages are needed")
			}
			w.checkLoad(t, root, s)
		})
	}
}

// 11.6: roots that are no page.
func TestNoRoot(t *testing.T) {
	w := fresh(t, 50)
	for _, root := range []int{-1 << 63, -1, 1, 2, 49, 50, 4096, 1<<63 - 1} {
		w.checkLoadFails(t, root, api.ErrCorrupt)
		if made, e := Save(w.s, w.p, root, some()); made != 0 || e != api.ErrCorrupt {
			t.Errorf("Save(%d): %d, error %d", root, made, e)
		}
	}
}

// leafOf is a leaf with some of the rows of a schema.
func leafOf(t testing.TB, s api.Schema, ids ...int) node.Node {
	n, values := node.Node{Leaf: true}, laid(t, s)
	for _, id := range ids {
		v := values[keyAt(id)]
		n.Cells = append(n.Cells, node.Cell{Key: []byte(keyAt(id)), Value: []byte(v), Size: len(v)})
	}
	return n
}

func (w *world) checkBothFail(t testing.TB, root int) {
	t.Helper()
	w.checkLoadFails(t, root, api.ErrCorrupt)
	if made, e := Save(w.s, w.p, root, some()); made != 0 || e != api.ErrCorrupt {
		t.Errorf("Save(%d): %d, error %d", root, made, e)
	}
}

// R1: a tree whose nodes lead to one leaf again and again has more keys than could be
// gone through; Load and Save end all the same.
func TestManyWaysToOneLeaf(t *testing.T) {
	s := schema(tables(table(1, "t", col("a", api.Int)), table(2, "u", col("a", api.Int))))
	for _, leaf := range []node.Node{leafOf(t, s, 1, 2), leafOf(t, s, 2)} {
		w := fresh(t, 100)
		w.layNode(t, 20, leaf)
		inner := node.Node{Kids: slices.Repeat([]int{20}, 41)}
		for i := range 40 {
			inner.Keys = append(inner.Keys, []byte{1, byte(i)})
		}
		for depth := range 12 {
			w.layNode(t, 19-depth, inner)
			inner.Kids = slices.Repeat([]int{19 - depth}, 41)
		}
		for root := 8; root < 20; root++ {
			w.checkBothFail(t, root)
		}
		w.checkLoad(t, 20, schema(s.Tables[2-len(leaf.Cells):]))
	}
}

// 11.6: an Id that is there twice, which no right tree has, and keys that fall.
func TestStrayKeys(t *testing.T) {
	one := schema(tables(table(1, "t", col("a", api.Int)), table(2, "u", col("a", api.Int))))
	two := schema(tables(table(1, "v", col("a", api.Int)), table(2, "w", col("a", api.Int))))
	w := fresh(t, 100)
	for _, leaves := range [][2]node.Node{{leafOf(t, one, 1), leafOf(t, two, 1)}, {leafOf(t, one, 1, 2), leafOf(t, two, 2)}, {leafOf(t, one, 2), leafOf(t, two, 1)}, {leafOf(t, one, 2), leafOf(t, one, 1)}} {
		w.layNode(t, 21, leaves[0])
		w.layNode(t, 22, leaves[1])
		w.layNode(t, 23, node.Node{Kids: []int{21, 22}, Keys: [][]byte{{9}}})
		w.checkBothFail(t, 23)
	}
}

// W5: whatever lies in the pages, Load and Save end, and a schema that is loaded is right.
func TestAnyPages(t *testing.T) {
	t.Parallel()
	right := 0
	for seed := range int64(400) {
		r := rand.New(rand.NewSource(seed))
		w := fresh(t, 500)
		root := w.save(t, w.put(t, 0, "\x00\x00\x00\x01", "row"), []api.Schema{some(), numbered(6, 9)}[seed%2])
		pages, _ := w.s.Pages(root)
		for range 1 + r.Intn(3) {
			page := pages[r.Intn(len(pages))]
			load, e := w.p.Read(page)
			if e != api.OK {
				continue
			}
			for range 1 + r.Intn(2) {
				load[r.Intn(250)] += byte(1 + r.Intn(255)*r.Intn(2))
			}
			w.p.Write(page, load)
		}
		s, e := Load(w.s, w.p, root)
		switch {
		case e == api.OK && isRight(s):
			right++
		case e != api.ErrCorrupt || s.Tables != nil || s.Indexes != nil:
			t.Fatalf("Load: %s, error %d", tell(s), e)
		}
		if made, e := Save(w.s, w.p, root, some()); e != api.OK && made != 0 {
			t.Fatalf("Save: %d, error %d", made, e)
		}
		for range 30 {
			Load(w.s, w.p, r.Intn(500))
		}
	}
	if right == 0 || right == 400 {
		t.Errorf("%d of 400 are right", right)
	}
}
