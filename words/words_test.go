package words

import (
	"strings"
	"testing"
)

// The keywords, as the document lists them, and nothing else.
func TestKeyword(t *testing.T) {
	all := strings.Fields("select distinct from join on where group by having order asc desc limit offset as insert into values update set delete create table unique index drop not null is and or true false begin commit rollback to savepoint release int text blob bool")
	if len(all) != 43 {
		t.Fatalf("%d keywords", len(all))
	}
	for _, word := range all {
		if !Keyword(word) {
			t.Errorf("%s is a keyword", word)
		}
		for _, other := range []string{word + "_", "_" + word, word + "1", word + " ", " " + word, strings.ToUpper(word), strings.ToUpper(word[:1]) + word[1:], word + word, word + "\x00"} {
			if Keyword(other) {
				t.Errorf("%q is no keyword", other)
			}
		}
	}
	for _, other := range []string{"", " ", "a", "selec", "sum", "count", "min", "max", "length", "abs", "upper", "lower", "substr", "coalesce", "in", "like", "between", "inner", "left", "integer", "boolean", "primary", "key", "*", "'", "1"} {
		if Keyword(other) {
			t.Errorf("%q is no keyword", other)
		}
	}
}
