package sorter

import (
	"strconv"

	"quarry/api"
)

// numbers is a number for each row, one and the same just for rows that are the
// same. It counts up from 0 as rows come for the first time, so that each of
// these has a number as great as those ahead of it are many.
func numbers(rows [][]api.Value) []int {
	single, others := map[api.Value]int{}, map[string]int{}
	l := make([]int, len(rows))
	for i, row := range rows {
		next := len(single) + len(others)
		if len(row) == 1 {
			l[i] = numberOf(single, row[0], next)
		} else {
			l[i] = numberOf(others, asText(row), next)
		}
	}
	return l
}

// numberOf is the number that a key has. One that came for the first time has
// the next.
func numberOf[K comparable](came map[K]int, key K, next int) int {
	if n, ok := came[key]; ok {
		return n
	}
	came[key] = next
	return next
}

// asText is a row as a text that no other row has: each number ends with a mark,
// and the bytes of a text are as many as the number ahead of them says, whatever
// they are. It tells values apart that are not right, too, as a map does.
func asText(row []api.Value) string {
	var b []byte
	for _, v := range row {
		for _, n := range [...]int64{int64(v.Kind), v.Int, int64(len(v.Text))} {
			b = append(strconv.AppendInt(b, n, 10), ';')
		}
		b = append(b, v.Text...)
	}
	return string(b)
}
