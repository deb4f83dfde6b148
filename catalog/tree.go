package catalog

import (
	"bytes"

	"quarry/api"
	"quarry/btree"
	"quarry/cursor"
	"quarry/pager"
	"quarry/throw"
)

// tree is a tree in which a catalog lies.
type tree struct {
	space *btree.Space
	pager *pager.Pager
	root  int
}

// each goes through the catalog's keys, rising, and hands the cursor that stands
// there to do. What hinders it is thrown.
func (t tree) each(do func(c *cursor.Cursor)) {
	c := cursor.New(t.pager, t.space, t.root)
	var ahead []byte
	there, e := c.Seek(Prefix(0))
	for ; there && bytes.HasPrefix(c.Key(), Prefix(0)); there, e = c.Next() {
		// In a tree that is not right the way may lead through one page again and
		// again; since no page has other keys the second time, this ends it.
		if ahead != nil && bytes.Compare(ahead, c.Key()) >= 0 {
			panic(api.ErrCorrupt)
		}
		ahead = c.Key()
		do(c)
	}
	throw.If(e)
}

// rows is the catalog's rows.
func (t tree) rows() []row {
	var l []row
	t.each(func(c *cursor.Cursor) {
		l = append(l, row{key: c.Key(), value: valueAt(c)})
	})
	return l
}

func valueAt(c *cursor.Cursor) []byte {
	value, e := c.Value()
	throw.If(e)
	return value
}

// with is the root of the tree in which the catalog's rows are just those of l.
func (t tree) with(l []row) int {
	missing := map[string]int{}
	for at, r := range l {
		missing[string(r.key)] = at
	}
	var surplus [][]byte
	t.each(func(c *cursor.Cursor) {
		key := c.Key()
		at, wanted := missing[string(key)]
		if !wanted {
			surplus = append(surplus, key)
		} else if bytes.Equal(valueAt(c), l[at].value) {
			delete(missing, string(key))
		}
	})
	root, e := t.root, api.OK
	for _, key := range surplus {
		root, _, e = t.space.Delete(root, key)
		throw.If(e)
	}
	for _, r := range l {
		if _, lacks := missing[string(r.key)]; lacks {
			root, e = t.space.Put(root, r.key, r.value)
			throw.If(e)
		}
	}
	return root
}
