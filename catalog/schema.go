package catalog

import (
	"math"
	"slices"

	"quarry/api"
)

// greatestId is the greatest number that a table or an index may have.
const greatestId = math.MaxInt32

func isDigit(c byte) bool { return c >= '0' && c <= '9' }

// isNamed tells whether a byte may stand in a name.
func isNamed(c byte) bool { return c >= 'a' && c <= 'z' || isDigit(c) || c == '_' }

// tableAt is the place of the first table of that name; below 0, if there is none.
func tableAt(s api.Schema, name string) int {
	return slices.IndexFunc(s.Tables, func(t api.Table) bool { return t.Name == name })
}

// indexAt is the place of the first index of that name; below 0, if there is none.
func indexAt(s api.Schema, name string) int {
	return slices.IndexFunc(s.Indexes, func(x api.Index) bool { return x.Name == name })
}

// tableFault is why a table may not stand beside those of a schema, whatever its Id.
func tableFault(s api.Schema, t api.Table) api.Errno {
	if e := Name(t.Name); e != api.OK {
		return e
	}
	if tableAt(s, t.Name) >= 0 {
		return api.ErrExists
	}
	if !isColumnCount(len(t.Cols)) {
		return api.ErrCount
	}
	if e := columnsFault(t.Cols); e != api.OK {
		return e
	}
	if len(s.Tables) >= api.MaxTables {
		return api.ErrLong
	}
	return api.OK
}

// isColumnCount tells whether a table, or an index, may have so many columns.
func isColumnCount(n int) bool { return n >= 1 && n <= api.MaxColumns }

func columnsFault(cols []api.Column) api.Errno {
	taken := map[string]int{}
	for at, c := range cols {
		if e := Name(c.Name); e != api.OK {
			return e
		}
		if _, there := taken[c.Name]; there {
			return api.ErrExists
		}
		if c.Type < api.Bool || c.Type > api.Blob {
			return api.ErrType
		}
		taken[c.Name] = at
	}
	return api.OK
}

// indexFault is why an index may not stand beside those of a schema, whatever its Id.
func indexFault(s api.Schema, x api.Index) api.Errno {
	if e := Name(x.Name); e != api.OK {
		return e
	}
	table := tableAt(s, x.Table)
	if table < 0 {
		return api.ErrTable
	}
	if indexAt(s, x.Name) >= 0 {
		return api.ErrExists
	}
	if !isColumnCount(len(x.Cols)) || len(x.Desc) != len(x.Cols) {
		return api.ErrCount
	}
	for at, place := range x.Cols {
		if place < 0 || place >= len(s.Tables[table].Cols) || slices.Contains(x.Cols[:at], place) {
			return api.ErrColumn
		}
	}
	if len(s.Indexes) >= api.MaxIndexes {
		return api.ErrLong
	}
	return api.OK
}

// nextId is the Id of what is made next.
func nextId(s api.Schema) (int, api.Errno) {
	greatest := 0
	for _, t := range s.Tables {
		greatest = max(greatest, t.Id)
	}
	for _, x := range s.Indexes {
		greatest = max(greatest, x.Id)
	}
	if greatest >= greatestId {
		return 0, api.ErrLong
	}
	return greatest + 1, api.OK
}

// copyOf is a schema that shares no memory with s.
func copyOf(s api.Schema) api.Schema {
	var made api.Schema
	for _, t := range s.Tables {
		made.Tables = append(made.Tables, copyOfTable(t))
	}
	for _, x := range s.Indexes {
		made.Indexes = append(made.Indexes, copyOfIndex(x))
	}
	return made
}

func copyOfTable(t api.Table) api.Table {
	t.Cols = slices.Clone(t.Cols)
	return t
}

func copyOfIndex(x api.Index) api.Index {
	x.Cols, x.Desc = slices.Clone(x.Cols), slices.Clone(x.Desc)
	return x
}
