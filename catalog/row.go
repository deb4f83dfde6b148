package catalog

import (
	"slices"

	"quarry/api"
	"quarry/rows"
	"quarry/throw"
)

// What a row of the catalog says it is.
const (
	isTable = "table"
	isIndex = "index"
)

// row is a key of the catalog, with its value.
type row struct {
	key, value []byte
}

// rowsOf is the catalog's rows of a schema. Those of a right one can all be
// written; what refuses another one is thrown.
func rowsOf(s api.Schema) []row {
	var l []row
	for _, t := range s.Tables {
		l = append(l, rowOf(t.Id, tableValues(t)))
	}
	for _, x := range s.Indexes {
		l = append(l, rowOf(x.Id, indexValues(x)))
	}
	return l
}

func rowOf(id int, values []api.Value) row {
	value, e := rows.Encode(values)
	throw.If(e)
	return row{key: keyOf(id), value: value}
}

func keyOf(id int) []byte { return slices.Concat(Prefix(0), Prefix(id)) }

func tableValues(t api.Table) []api.Value {
	l := []api.Value{textOf(isTable), textOf(t.Name)}
	for _, c := range t.Cols {
		l = append(l, textOf(c.Name), intOf(c.Type), boolOf(c.NotNull))
	}
	return l
}

func indexValues(x api.Index) []api.Value {
	l := []api.Value{textOf(isIndex), textOf(x.Name), textOf(x.Table), boolOf(x.Unique)}
	for at, place := range x.Cols {
		// An index that is not right may have fewer of Desc.
		l = append(l, intOf(place), boolOf(at < len(x.Desc) && x.Desc[at]))
	}
	return l
}

func textOf(s string) api.Value { return api.Value{Kind: api.Text, Text: s} }

func intOf(n int) api.Value { return api.Value{Kind: api.Int, Int: int64(n)} }

func boolOf(b bool) api.Value {
	if b {
		return api.Value{Kind: api.Bool, Int: 1}
	}
	return api.Value{Kind: api.Bool}
}

// schemaOf is the schema whose rows these are, their keys rising. What is none is
// thrown.
func schemaOf(l []row) api.Schema {
	var s api.Schema
	var indexes []api.Index
	for _, r := range l {
		id, f := idOf(r.key), fieldsOf(r.value)
		switch f.text() {
		case isTable:
			t := f.table(id)
			refuse(tableFault(s, t))
			s.Tables = append(s.Tables, t)
		case isIndex:
			indexes = append(indexes, f.index(id))
		default:
			panic(api.ErrCorrupt)
		}
	}
	// A table may have a greater Id than an index of it, so all of them come first.
	for _, x := range indexes {
		refuse(indexFault(s, x))
		s.Indexes = append(s.Indexes, x)
	}
	return s
}

// refuse throws that rows are not those of a right schema, if there is a fault.
func refuse(fault api.Errno) {
	if fault != api.OK {
		panic(api.ErrCorrupt)
	}
}

// idOf is the Id in a key that begins with Prefix(0).
func idOf(key []byte) int {
	if len(key) != len(keyOf(0)) {
		panic(api.ErrCorrupt)
	}
	id := 0
	for _, b := range key[len(Prefix(0)):] {
		id = id<<8 | int(b)
	}
	if id < 1 || id > greatestId {
		panic(api.ErrCorrupt)
	}
	return id
}

// fields is the values of a row that were not taken yet. What does not fit is thrown.
type fields struct {
	rest []api.Value
}

func fieldsOf(value []byte) *fields {
	values, e := rows.Decode(value)
	refuse(e)
	return &fields{rest: values}
}

func (f *fields) take(kind int) api.Value {
	if len(f.rest) == 0 || f.rest[0].Kind != kind {
		panic(api.ErrCorrupt)
	}
	v := f.rest[0]
	f.rest = f.rest[1:]
	return v
}

func (f *fields) text() string { return f.take(api.Text).Text }

func (f *fields) number() int { return int(f.take(api.Int).Int) }

func (f *fields) truth() bool { return f.take(api.Bool).Int == 1 }

func (f *fields) table(id int) api.Table {
	t := api.Table{Id: id, Name: f.text()}
	for len(f.rest) > 0 {
		t.Cols = append(t.Cols, api.Column{Name: f.text(), Type: f.number(), NotNull: f.truth()})
	}
	return t
}

func (f *fields) index(id int) api.Index {
	x := api.Index{Id: id, Name: f.text(), Table: f.text(), Unique: f.truth()}
	for len(f.rest) > 0 {
		x.Cols = append(x.Cols, f.number())
		x.Desc = append(x.Desc, f.truth())
	}
	return x
}
