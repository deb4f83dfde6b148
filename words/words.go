// Package words says which words are keywords, to all layers that must know it.
package words

// Keyword tells whether a word is a keyword, and so no name.
func Keyword(word string) bool {
	switch word {
	case "select", "distinct", "from", "join", "on", "where", "group", "by", "having",
		"order", "asc", "desc", "limit", "offset", "as",
		"insert", "into", "values", "update", "set", "delete",
		"create", "table", "unique", "index", "drop",
		"not", "null", "is", "and", "or", "true", "false",
		"begin", "commit", "rollback", "to", "savepoint", "release",
		"int", "text", "blob", "bool":
		return true
	}
	return false
}
