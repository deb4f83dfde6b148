package sorter

import (
	"fmt"
	"math/big"
	"slices"
	"strconv"
	"strings"
	"testing"

	"quarry/api"
	"quarry/value"
)

// What follows has the chapter's words as they stand, however long it takes.

// plainOrder takes, of the places that are left, again and again the one whose
// key no other one's stands ahead of, of several the least.
func plainOrder(keys [][]api.Value, desc []bool) []int {
	left := make([]int, len(keys))
	for i := range left {
		left[i] = i
	}
	var order []int
	for len(left) > 0 {
		first := 0
		for i := range left {
			if value.Rows(keys[left[i]], keys[left[first]], desc) < 0 {
				first = i
			}
		}
		order = append(order, left[first])
		left = slices.Delete(left, first, first+1)
	}
	return order
}

// same tells whether two rows are: value by value, as many.
func same(a, b []api.Value) bool {
	if len(a) != len(b) {
		return false
	}
	for i := range a {
		if a[i].Kind != b[i].Kind || a[i].Int != b[i].Int || a[i].Text != b[i].Text {
			return false
		}
	}
	return true
}

// isFirst tells whether a row is not the same as any ahead of it.
func isFirst(rows [][]api.Value, place int) bool {
	for _, ahead := range rows[:place] {
		if same(ahead, rows[place]) {
			return false
		}
	}
	return true
}

func plainDistinct(rows [][]api.Value) []int {
	var l []int
	for place := range rows {
		if isFirst(rows, place) {
			l = append(l, place)
		}
	}
	return l
}

func plainGroup(keys [][]api.Value) [][]int {
	var groups [][]int
	for _, first := range plainDistinct(keys) {
		var l []int
		for place := range keys {
			if same(keys[place], keys[first]) {
				l = append(l, place)
			}
		}
		groups = append(groups, l)
	}
	return groups
}

// plainCut reckons with numbers that are never too great.
func plainCut(n, limit, offset int) (int, int) {
	all, from := big.NewInt(int64(max(n, 0))), big.NewInt(int64(offset))
	if from.Sign() < 0 {
		from.SetInt64(0)
	}
	if from.Cmp(all) > 0 {
		from.Set(all)
	}
	to := new(big.Int).Add(from, big.NewInt(int64(limit)))
	if limit < 0 || to.Cmp(all) > 0 {
		to.Set(all)
	}
	return int(from.Int64()), int(to.Int64())
}

// holdOrder holds an order against one that is known.
func holdOrder(t testing.TB, keys [][]api.Value, desc []bool, want ...int) {
	t.Helper()
	if l := Order(keys, desc); !slices.Equal(l, want) {
		t.Errorf("Order of %s with %v: %s, want %s", show(keys), few(desc), few(l), few(want))
	}
}

// holdDistinct holds those that come for the first time against known ones.
func holdDistinct(t testing.TB, rows [][]api.Value, want ...int) {
	t.Helper()
	if l := Distinct(rows); !slices.Equal(l, want) {
		t.Errorf("Distinct of %s: %s, want %s", show(rows), few(l), few(want))
	}
}

// holdGroup holds groups against known ones.
func holdGroup(t testing.TB, keys [][]api.Value, want ...[]int) {
	t.Helper()
	if l := Group(keys); !slices.EqualFunc(l, want, slices.Equal) {
		t.Errorf("Group of %s: %s, want %s", show(keys), few(l), few(want))
	}
}

// check holds all that there is to be told of some rows against the chapter's
// words.
func check(t testing.TB, rows [][]api.Value, descs ...[]bool) {
	t.Helper()
	for _, desc := range descs {
		holdOrder(t, rows, desc, plainOrder(rows, desc)...)
	}
	holdDistinct(t, rows, plainDistinct(rows)...)
	holdGroup(t, rows, plainGroup(rows)...)
}

// at is the rows at some places.
func at(rows [][]api.Value, places []int) [][]api.Value {
	var l [][]api.Value
	for _, place := range places {
		l = append(l, rows[place])
	}
	return l
}

// rising is the numbers from 0 on.
func rising(n int) []int {
	l := make([]int, n)
	for i := range l {
		l[i] = i
	}
	return l
}

func null() api.Value { return api.Value{} }

func boolOf(n int64) api.Value { return api.Value{Kind: api.Bool, Int: n} }

func intOf(n int64) api.Value { return api.Value{Kind: api.Int, Int: n} }

func textOf(s string) api.Value { return api.Value{Kind: api.Text, Text: s} }

func blobOf(s string) api.Value { return api.Value{Kind: api.Blob, Text: s} }

func rowOf(l ...api.Value) []api.Value { return l }

func rowsOf(l ...[]api.Value) [][]api.Value { return l }

// columnOf is rows of one value.
func columnOf(l ...api.Value) [][]api.Value {
	var rows [][]api.Value
	for _, v := range l {
		rows = append(rows, rowOf(v))
	}
	return rows
}

// show is rows as a text that is not too long to be read.
func show(rows [][]api.Value) string {
	var text []string
	for _, row := range rows[:min(len(rows), 12)] {
		text = append(text, "("+showRow(row)+")")
	}
	return fmt.Sprintf("%v of %d", text, len(rows))
}

func showRow(row []api.Value) string {
	var text []string
	for _, v := range row[:min(len(row), 12)] {
		literal := value.Literal(v)
		if literal == "" {
			literal = fmt.Sprintf("%+v", v)
		}
		text = append(text, fmt.Sprintf("%.40s", strings.Trim(strconv.QuoteToASCII(literal), `"`)))
	}
	return strings.Join(text, ", ")
}

// few is a list, cut where it is too long to be read.
func few[T any](l []T) string { return fmt.Sprintf("%v of %d", l[:min(len(l), 20)], len(l)) }
