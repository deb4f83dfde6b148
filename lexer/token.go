package lexer

import (
	"strconv"
	"strings"

	"quarry/api"
)

const (
	remark  = "--"
	lineEnd = '\n'
	quote   = '\''
)

// first is the token with which a text begins that is not empty, without its
// place, and its size in bytes, which is 0 if there is none.
func first(text string) (api.Token, int) {
	switch c := text[0]; {
	case c == quote:
		return quoted(text)
	case isDigit(c):
		return number(text)
	case beginsBlob(text):
		return blob(text)
	case beginsWord(c):
		return word(text)
	}
	return symbol(text)
}

func quoted(text string) (api.Token, int) {
	var meant strings.Builder
	for at := 1; at < len(text); at++ {
		if text[at] == quote {
			at++
			if at == len(text) || text[at] != quote {
				return api.Token{Kind: api.TText, Text: meant.String()}, at
			}
		}
		meant.WriteByte(text[at])
	}
	return api.Token{}, 0
}

func number(text string) (api.Token, int) {
	size := sizeOf(text, isDigit)
	n, err := strconv.ParseInt(text[:size], 10, 64)
	if err != nil {
		return api.Token{}, 0
	}
	return api.Token{Kind: api.TInt, Int: n}, size
}

func beginsBlob(text string) bool {
	return len(text) > 1 && (text[0] == 'x' || text[0] == 'X') && text[1] == quote
}

func blob(text string) (api.Token, int) {
	var meant strings.Builder
	at := len("x'")
	for ; at+1 < len(text) && text[at] != quote; at += 2 {
		high, low := digit(text[at]), digit(text[at+1])
		if high < 0 || low < 0 {
			return api.Token{}, 0
		}
		meant.WriteByte(byte(high<<4 | low))
	}
	if at >= len(text) || text[at] != quote {
		return api.Token{}, 0
	}
	return api.Token{Kind: api.TBlob, Text: meant.String()}, at + 1
}

func word(text string) (api.Token, int) {
	size := sizeOf(text, isWord)
	return api.Token{Kind: api.TWord, Text: strings.ToLower(text[:size])}, size
}

func symbol(text string) (api.Token, int) {
	size := symbolSize(text)
	if size == 0 {
		return api.Token{}, 0
	}
	return api.Token{Kind: api.TSymbol, Text: text[:size]}, size
}

// symbolSize asks for the longer symbols first: <> begins with one, too.
func symbolSize(text string) int {
	switch text[:min(2, len(text))] {
	case "<>", "<=", ">=", "||":
		return 2
	}
	switch text[0] {
	case '(', ')', ',', '.', '*', '=', '<', '>', '+', '-', '/', '%', ';':
		return 1
	}
	return 0
}

// sizeOf is how many bytes at a text's beginning are such ones.
func sizeOf(text string, such func(byte) bool) int {
	size := 0
	for size < len(text) && such(text[size]) {
		size++
	}
	return size
}

func isBlank(c byte) bool { return c == ' ' || c == '\t' || c == lineEnd || c == '\r' }

func isDigit(c byte) bool { return '0' <= c && c <= '9' }

func beginsWord(c byte) bool { return 'a' <= c && c <= 'z' || 'A' <= c && c <= 'Z' || c == '_' }

func isWord(c byte) bool { return beginsWord(c) || isDigit(c) }

// digit is what a hexadecimal digit says, or -1.
func digit(c byte) int {
	switch {
	case isDigit(c):
		return int(c - '0')
	case 'a' <= c && c <= 'f':
		return int(c-'a') + 10
	case 'A' <= c && c <= 'F':
		return int(c-'A') + 10
	}
	return -1
}
