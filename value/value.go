// Package value is layer 1: values. See shared/doc/01-value.md.
package value

import (
	"cmp"
	"strconv"
	"strings"

	"quarry/api"
)

const hexDigits = "0123456789ABCDEF"

// Check tells what is wrong with a value.
func Check(v api.Value) api.Errno {
	if v.Kind < api.Null || v.Kind > api.Blob {
		return api.ErrKind
	}
	if v != named(v) || v.Kind == api.Bool && v.Int != 0 && v.Int != 1 {
		return api.ErrField
	}
	return api.OK
}

// named keeps of a value just the fields that its kind names, so that a right
// value is known by being the same, held against it whole.
func named(v api.Value) api.Value {
	switch v.Kind {
	case api.Bool, api.Int:
		return api.Value{Kind: v.Kind, Int: v.Int}
	case api.Text, api.Blob:
		return api.Value{Kind: v.Kind, Text: v.Text}
	}
	return api.Value{Kind: v.Kind}
}

// Compare puts two values in order.
func Compare(a, b api.Value) int {
	if a.Kind != b.Kind {
		return cmp.Compare(a.Kind, b.Kind)
	}
	switch a.Kind {
	case api.Bool, api.Int:
		return cmp.Compare(a.Int, b.Int)
	case api.Text, api.Blob:
		return strings.Compare(a.Text, b.Text)
	}
	return 0
}

// Rows puts two rows in order.
func Rows(a, b []api.Value, desc []bool) int {
	for i := range min(len(a), len(b)) {
		c := Compare(a[i], b[i])
		if c == 0 {
			continue
		}
		if i < len(desc) && desc[i] {
			return -c
		}
		return c
	}
	return cmp.Compare(len(a), len(b))
}

// Literal is a value as it stands in a statement.
func Literal(v api.Value) string {
	if Check(v) != api.OK {
		return ""
	}
	switch v.Kind {
	case api.Bool:
		return truth(v.Int)
	case api.Int:
		return strconv.FormatInt(v.Int, 10)
	case api.Text:
		return "'" + strings.ReplaceAll(v.Text, "'", "''") + "'"
	case api.Blob:
		return "X'" + hex(v.Text) + "'"
	}
	return "NULL"
}

func truth(n int64) string {
	if n == 0 {
		return "FALSE"
	}
	return "TRUE"
}

func hex(s string) string {
	var b strings.Builder
	b.Grow(2 * len(s))
	for i := range len(s) {
		b.WriteByte(hexDigits[s[i]>>4])
		b.WriteByte(hexDigits[s[i]&15])
	}
	return b.String()
}

// Type is a type's name.
func Type(t int) string {
	switch t {
	case api.Null:
		return "NULL"
	case api.Bool:
		return "BOOL"
	case api.Int:
		return "INT"
	case api.Text:
		return "TEXT"
	case api.Blob:
		return "BLOB"
	}
	return ""
}
