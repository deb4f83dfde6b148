package lexer

import (
	"encoding/hex"
	"math/big"
	"math/rand"
	"regexp"
	"slices"
	"strings"
	"testing"

	"quarry/api"
)

// plain takes texts apart by patterns, as the chapter's words say them.
type plain struct {
	between, word, digits, text, blob, beginsBlob, symbol *regexp.Regexp
}

func newPlain() plain {
	of := func(s string) *regexp.Regexp { return regexp.MustCompile(`\A(?s:` + s + `)`) }
	return plain{
		between:    of(`(?:[ \t\n\r]|--[^\n]*)*`),
		word:       of(`[A-Za-z_][A-Za-z0-9_]*`),
		digits:     of(`[0-9]+`),
		text:       of(`'(?:[^']|'')*'`),
		blob:       of(`[xX]'(?:[0-9A-Fa-f][0-9A-Fa-f])*'`),
		beginsBlob: of(`[xX]'`),
		symbol:     of(`<>|<=|>=|\|\||[(),.*=<>+\-/%;]`),
	}
}

// one is the token at a text's beginning and what is behind it.
func (p plain) one(text string) (t api.Token, rest string, ok bool) {
	if p.beginsBlob.MatchString(text) {
		s := p.blob.FindString(text)
		if s == "" {
			return t, "", false
		}
		b, _ := hex.DecodeString(s[2 : len(s)-1])
		return blobOf(string(b)), text[len(s):], true
	}
	if s := p.word.FindString(text); s != "" {
		return wordOf(strings.ToLower(s)), text[len(s):], true
	}
	if s := p.digits.FindString(text); s != "" {
		n, _ := new(big.Int).SetString(s, 10)
		return intOf(n.Int64()), text[len(s):], n.IsInt64()
	}
	if s := p.text.FindString(text); s != "" {
		rest = text[len(s):]
		return textOf(strings.ReplaceAll(s[1:len(s)-1], "''", "'")), rest, !strings.HasPrefix(rest, "'")
	}
	s := p.symbol.FindString(text)
	return symbolOf(s), text[len(s):], s != ""
}

// tokens is all of them, or the place of the first that is none, else -1.
func (p plain) tokens(text string) (l []api.Token, fault int) {
	rest := text
	for {
		rest = rest[len(p.between.FindString(rest)):]
		if rest == "" {
			return l, -1
		}
		place := len(text) - len(rest)
		t, behind, ok := p.one(rest)
		if !ok {
			return nil, place
		}
		l, rest = append(l, at(place, t)), behind
	}
}

// stopIfFailed: of very many texts one that fails is enough.
func stopIfFailed(t *testing.T) {
	t.Helper()
	if t.Failed() {
		t.FailNow()
	}
}

// check holds Tokens against the patterns, and what Print writes of its answer against it.
func (p plain) check(t *testing.T, text string) (ok bool) {
	t.Helper()
	stopIfFailed(t)
	l, fault := p.tokens(text)
	if fault >= 0 {
		checkFault(t, text, fault, api.ErrSyntax)
		return false
	}
	checkTokens(t, text, l...)
	checkAnew(t, l)
	return true
}

// checkAnew: the Prints of tokens, with a blank between each two, have the same tokens but
// for their places.
func checkAnew(t *testing.T, l []api.Token) {
	t.Helper()
	stopIfFailed(t)
	var prints []string
	var want []api.Token
	place := 0
	for _, x := range l {
		s := Print(x)
		prints = append(prints, s)
		want = append(want, at(place, x))
		place += len(s) + 1
	}
	anew := strings.Join(prints, " ")
	checkTokens(t, anew, want...)
	again, _ := Tokens(anew)
	for i, x := range again {
		if s := Print(x); s != prints[i] {
			t.Errorf("Print: %q, anew %q", prints[i], s)
		}
	}
}

// everyText goes through all texts of at most so many of some bytes.
func everyText(bytes string, most int, do func(string)) {
	var longer func(string)
	longer = func(s string) {
		do(s)
		if len(s) < most {
			for _, c := range []byte(bytes) {
				longer(s + string([]byte{c}))
			}
		}
	}
	longer("")
}

// 12.1 and 12.3: all short texts of the bytes that mean something beside one another.
func TestShortTexts(t *testing.T) {
	t.Parallel()
	p := newPlain()
	for _, c := range []struct {
		bytes string
		most  int
	}{
		{"'a \n", 7}, {"'xX0fFg", 6}, {"x'0a", 8}, {"-\n\r a'", 6}, {"<>=|-! ", 5}, {"_aZ09'. ", 5}, {"(),.*=<>+-/%;|a1 '", 3}, {"\x00\xff\xc3\xa9\t\r'a-", 4},
	} {
		read, refused := 0, 0
		everyText(c.bytes, c.most, func(text string) {
			if p.check(t, text) {
				read++
			} else {
				refused++
			}
		})
		if read < 20 || refused < 20 {
			t.Errorf("%q: %d texts are read, %d refused", c.bytes, read, refused)
		}
	}
}

// 12.1: all texts of two bytes.
func TestTwoBytes(t *testing.T) {
	t.Parallel()
	p := newPlain()
	for a := range 256 {
		for b := range 256 {
			p.check(t, string([]byte{byte(a), byte(b)}))
		}
	}
}

// 12.1 and 12.3: long texts of pieces that go together and pieces that do not.
func TestPieces(t *testing.T) {
	t.Parallel()
	p := newPlain()
	pieces := []string{
		"select", "SELECT", "a1", "_", "x", "X", "é", "0", "007", "9223372036854775807", "9223372036854775808", "'it''s'", "''", "'", "'\n--'", "x'0aFf'", "X''", "x'0'", "x'0g'", "x'",
		"<>", "<=", ">=", "||", "|", "(", ")", ",", ".", "*", "=", "<", ">", "+", "-", "/", "%", ";", "!", " ", " ", " ", "\t", "\n", "\n", "\r", "--", "-- a\n", "-- 'b\r!\n", "\x00", "\xff",
	}
	r := rand.New(rand.NewSource(12))
	read, refused := 0, 0
	for range 60000 {
		var text strings.Builder
		for range r.Intn(1 + 1<<r.Intn(6)) {
			text.WriteString(pieces[r.Intn(len(pieces))])
		}
		if p.check(t, text.String()) {
			read++
		} else {
			refused++
		}
	}
	if read < 10000 || refused < 10000 {
		t.Errorf("%d texts are read, %d refused", read, refused)
	}
}

// someToken is a token by chance, with a way to write it.
func someToken(r *rand.Rand) (api.Token, string) {
	some := func(from string, n int) string {
		var b []byte
		for range n {
			b = append(b, from[r.Intn(len(from))])
		}
		return string(b)
	}
	n := r.Intn(1 << r.Intn(7))
	switch r.Intn(5) {
	case 0:
		s := some("abcxyzABCXYZ_", 1) + some("abcxyzABCXYZ_0189", n)
		return wordOf(strings.ToLower(s)), s
	case 1:
		v := r.Int63() >> r.Intn(64)
		return intOf(v), strings.Repeat("0", n) + big.NewInt(v).String()
	case 2:
		s := some("''' ab-x\n\r\x00\x7f\x80\xff", n)
		return textOf(s), "'" + strings.ReplaceAll(s, "'", "''") + "'"
	case 3:
		digits := some("0123456789abcdefABCDEF", 2*n)
		b, _ := hex.DecodeString(digits)
		return blobOf(string(b)), some("xX", 1) + "'" + digits + "'"
	}
	s := strings.Fields("<> <= >= || ( ) , . * = < > + - / % ;")[r.Intn(17)]
	return symbolOf(s), s
}

// 12.1 and 12.3: tokens that are known, written with all kinds of things between them.
func TestKnownTokens(t *testing.T) {
	t.Parallel()
	r := rand.New(rand.NewSource(7))
	gaps := []string{" ", "\n", "\t", "\r", "  ", " --\n", "\n-- 'a\r!\n\n", "\r\n"}
	faults := []string{"!", "|", "9223372036854775808", "'", "'a''", "x'0", "X'0'", "\xff", "#"}
	for range 4000 {
		var want []api.Token
		var text strings.Builder
		for range r.Intn(1 + 1<<r.Intn(7)) {
			x, s := someToken(r)
			text.WriteString(gaps[r.Intn(len(gaps))])
			want = append(want, at(text.Len(), x))
			text.WriteString(s)
			text.WriteString(gaps[r.Intn(len(gaps))])
		}
		if text.Len() > api.MaxText-100 {
			continue
		}
		checkTokens(t, text.String(), want...)
		checkAnew(t, want)
		checkFault(t, text.String()+faults[r.Intn(len(faults))]+" ", text.Len(), api.ErrSyntax)
	}
}

// 12.3: each two tokens beside one another: a blank keeps apart what would else be one.
func TestPairsAnew(t *testing.T) {
	tokens := list(wordOf("x"), wordOf("a"), wordOf("_"), wordOf("select"), intOf(0), intOf(1<<63-1), textOf(""), textOf("'"), textOf("--\n"), textOf("\xff\x00"), blobOf(""), blobOf("'\x00\xff"))
	for _, s := range strings.Fields("<> <= >= || ( ) , . * = < > + - / % ;") {
		tokens = append(tokens, symbolOf(s))
	}
	for _, a := range tokens {
		for _, b := range tokens {
			checkAnew(t, list(a, b))
			checkAnew(t, slices.Repeat(list(a, b), 3))
		}
	}
}

// R1: no text is too much for Tokens, and its errors are just the two.
func FuzzTokens(f *testing.F) {
	for _, s := range []string{"", "SELECT a1, 'it''s' -- x", "x'0aFf'", "9223372036854775808", "a<>b", "1a", "x'0", "'''", "|", "-- a\rb\n-"} {
		f.Add(s)
	}
	p := newPlain()
	f.Fuzz(func(t *testing.T, text string) {
		if len(text) > api.MaxText {
			checkFault(t, text, 0, api.ErrLong)
		} else if l, fault := p.tokens(text); fault >= 0 {
			checkFault(t, text, fault, api.ErrSyntax)
		} else {
			checkTokens(t, text, l...)
		}
	})
}
