package keys

import (
	"bytes"
	"math"
	"regexp"
	"slices"
	"strings"
	"testing"

	"quarry/api"
	"quarry/value"
)

var null = api.Value{}

func boolOf(n int64) api.Value { return api.Value{Kind: api.Bool, Int: n} }

func intOf(n int64) api.Value { return api.Value{Kind: api.Int, Int: n} }

func textOf(s string) api.Value { return api.Value{Kind: api.Text, Text: s} }

func blobOf(s string) api.Value { return api.Value{Kind: api.Blob, Text: s} }

func row(l ...api.Value) []api.Value { return l }

func raw(l ...byte) []byte { return l }

// numbers is numbers at which a byte of eight, or the sign, turns.
func numbers() []int64 {
	l := []int64{0, 1, 127, 128, 254, 255, 256, 257, 65535, 65536, 1<<32 - 1, 1 << 32, 0x0102030405060708, math.MaxInt64 - 1, math.MaxInt64}
	for _, n := range slices.Clone(l) {
		l = append(l, -n-1)
	}
	return l
}

// texts is texts in whose bytes an end could be mistaken for what goes on.
func texts() []string {
	return []string{"", "\x00", "\x00\x00", "\x00\x01", "\x00\xff", "\x00\xff\x00\x01", "\x01", "\x01\x00", "\x01\x01", "a", "a\x00", "a\x00b", "a\x01", "ab", "b", "\xfe", "\xff", "\xff\x00", "\xff\x00\xff", "\xff\x01", "\xff\xfe", "\xff\xff", "\xc3\xa9"}
}

// rightValues is right values of each kind.
func rightValues() []api.Value {
	l := row(null, boolOf(0), boolOf(1))
	for _, n := range numbers() {
		l = append(l, intOf(n))
	}
	for _, s := range texts() {
		l = append(l, textOf(s), blobOf(s))
	}
	return l
}

// wrongValues is values that are not right, of each reason.
func wrongValues() []api.Value {
	return row(
		api.Value{Int: 1}, api.Value{Text: "a"}, boolOf(2), boolOf(-1), boolOf(256), api.Value{Kind: api.Bool, Text: "a"},
		api.Value{Kind: api.Int, Text: "a"}, api.Value{Kind: api.Text, Int: 1}, api.Value{Kind: api.Blob, Int: -1},
		api.Value{Kind: 5}, api.Value{Kind: -1}, api.Value{Kind: 256}, api.Value{Kind: math.MinInt}, api.Value{Kind: math.MaxInt})
}

// descs is some ways to turn the places of a row about, shorter and longer ones.
func descs() [][]bool {
	return [][]bool{nil, {}, {false}, {true}, {false, true}, {true, false}, {true, true}, {false, false, false}, {true, true, true, true, true}}
}

func turnedBack(b []byte) []byte {
	l := []byte{}
	for _, c := range b {
		l = append(l, ^c)
	}
	return l
}

func encoded(t *testing.T, r []api.Value, desc []bool) []byte {
	t.Helper()
	b, e := Encode(r, desc)
	if e != api.OK {
		t.Fatalf("Encode(%#v, %v): error %d", r, desc, e)
	}
	return b
}

func checkEncode(t *testing.T, r []api.Value, desc []bool, want []byte) {
	t.Helper()
	if b, e := Encode(r, desc); !bytes.Equal(b, want) || e != api.OK {
		t.Errorf("Encode(%#v, %v): %v, error %d, want %v", r, desc, b, e, want)
	}
}

func checkDecode(t *testing.T, b []byte, desc []bool, want []api.Value, e api.Errno) {
	t.Helper()
	if r, x := Decode(b, desc); !slices.Equal(r, want) || x != e {
		t.Errorf("Decode(%v, %v): %#v, error %d, want %#v, %d", b, desc, r, x, want, e)
	}
}

// valueBytes is the bytes of some values, not turned about, written out.
func valueBytes() []struct {
	v api.Value
	b []byte
} {
	return []struct {
		v api.Value
		b []byte
	}{
		{null, raw(1)},
		{boolOf(0), raw(2, 0)},
		{boolOf(1), raw(2, 1)},
		{intOf(0), raw(3, 128, 0, 0, 0, 0, 0, 0, 0)},
		{intOf(1), raw(3, 128, 0, 0, 0, 0, 0, 0, 1)},
		{intOf(-1), raw(3, 127, 255, 255, 255, 255, 255, 255, 255)},
		{intOf(256), raw(3, 128, 0, 0, 0, 0, 0, 1, 0)},
		{intOf(0x0102030405060708), raw(3, 129, 2, 3, 4, 5, 6, 7, 8)},
		{intOf(math.MinInt64), raw(3, 0, 0, 0, 0, 0, 0, 0, 0)},
		{intOf(math.MaxInt64), raw(3, 255, 255, 255, 255, 255, 255, 255, 255)},
		{textOf(""), raw(4, 0, 1)},
		{textOf("a"), raw(4, 97, 0, 1)},
		{textOf("\x00"), raw(4, 0, 255, 0, 1)},
		{textOf("\x00\x00"), raw(4, 0, 255, 0, 255, 0, 1)},
		{textOf("\x00\x01"), raw(4, 0, 255, 1, 0, 1)},
		{textOf("\x00\xff"), raw(4, 0, 255, 255, 0, 1)},
		{textOf("\x01\xfe\xff"), raw(4, 1, 254, 255, 0, 1)},
		{textOf("a\x00b"), raw(4, 97, 0, 255, 98, 0, 1)},
		{textOf("\xc3\xa9"), raw(4, 195, 169, 0, 1)},
		{blobOf(""), raw(5, 0, 1)},
		{blobOf("\x00\x01\xfe\xff"), raw(5, 0, 255, 1, 254, 255, 0, 1)},
	}
}

// 3.1, 3.2: single values, turned about and not, both ways round.
func TestValues(t *testing.T) {
	for _, c := range valueBytes() {
		for _, desc := range [][]bool{nil, {}, {false}, {false, true}} {
			checkEncode(t, row(c.v), desc, c.b)
			checkDecode(t, c.b, desc, row(c.v), api.OK)
		}
		for _, desc := range [][]bool{{true}, {true, false}, {true, true, true}} {
			checkEncode(t, row(c.v), desc, turnedBack(c.b))
			checkDecode(t, turnedBack(c.b), desc, row(c.v), api.OK)
		}
	}
}

// 3.1, 3.2: the bytes of a row are those of its values, each turned about as
// desc says of its own place.
func TestRowsOfValues(t *testing.T) {
	for _, a := range valueBytes() {
		for _, b := range valueBytes() {
			r := row(a.v, b.v, a.v)
			for _, desc := range descs() {
				want := []byte{}
				for i, part := range [][]byte{a.b, b.b, a.b} {
					if i < len(desc) && desc[i] {
						part = turnedBack(part)
					}
					want = append(want, part...)
				}
				checkEncode(t, r, desc, want)
				checkDecode(t, want, desc, r, api.OK)
			}
		}
	}
}

// 3.1, 3.2: the row without values.
func TestNoValues(t *testing.T) {
	for _, desc := range descs() {
		for _, r := range [][]api.Value{nil, {}} {
			checkEncode(t, r, desc, nil)
		}
		for _, b := range [][]byte{nil, {}} {
			checkDecode(t, b, desc, nil, api.OK)
		}
	}
}

// 3.1: a value that is not right, alone and at each place among right ones.
func TestEncodeWrong(t *testing.T) {
	for _, v := range wrongValues() {
		for _, r := range [][]api.Value{row(v), row(v, null), row(intOf(1), v), row(textOf("a"), v, boolOf(1)), row(v, v)} {
			for _, desc := range descs() {
				if b, e := Encode(r, desc); len(b) != 0 || e != api.ErrField {
					t.Errorf("Encode(%#v, %v): %v, error %d, want none, %d", r, desc, b, e, api.ErrField)
				}
			}
		}
	}
}

// 3.1: longer than any limit of what is stored.
func TestEncodeLong(t *testing.T) {
	s := strings.Repeat("ab\x00", 1<<16)
	want := append(append(raw(5), strings.ReplaceAll(s, "\x00", "\x00\xff")...), 0, 1)
	checkEncode(t, row(blobOf(s)), nil, want)
	checkDecode(t, want, nil, row(blobOf(s)), api.OK)
	r := slices.Repeat(row(boolOf(1)), 1<<16)
	checkEncode(t, r, []bool{true}, append(raw(253, 254), bytes.Repeat(raw(2, 1), 1<<16-1)...))
	checkDecode(t, encoded(t, r, nil), nil, r, api.OK)
}

// 3.1, 3.2, 3.3 with R4: nothing that is handed in is changed, not even behind
// a list's end, and what is handed out stays as it is when that is.
func TestMemory(t *testing.T) {
	r := row(textOf("a"), intOf(1), null)[:2]
	desc := []bool{true, true, true}[:1]
	b := encoded(t, r, desc)
	if !slices.Equal(r[:3], row(textOf("a"), intOf(1), null)) || !slices.Equal(desc[:3], []bool{true, true, true}) {
		t.Errorf("Encode changed what it was given: %#v, %v", r[:3], desc[:3])
	}
	room := append(slices.Clone(b), 7, 7)[:len(b)]
	got, _ := Decode(room, desc)
	if !bytes.Equal(room[:len(b)+2], append(slices.Clone(b), 7, 7)) || !slices.Equal(desc[:3], []bool{true, true, true}) {
		t.Errorf("Decode changed what it was given: %v, %v", room[:len(b)+2], desc[:3])
	}
	clear(room)
	if !slices.Equal(got, r) {
		t.Errorf("Decode answers what it was given: %#v", got)
	}
	for _, full := range [][]byte{{1, 2, 255, 9}, {1, 2, 3, 9}} {
		from := slices.Clone(full)
		next, _ := Next(from[:3])
		if !bytes.Equal(from, full) {
			t.Errorf("Next changed %v to %v", full, from)
		}
		want := slices.Clone(next)
		clear(from)
		if !bytes.Equal(next, want) {
			t.Errorf("Next answers what it was given: %v", next)
		}
	}
}

// 3.2: what is wrong, by hand.
func TestDecodeErrors(t *testing.T) {
	for _, c := range []struct {
		b []byte
		e api.Errno
	}{
		{raw(0), api.ErrKind}, {raw(6), api.ErrKind}, {raw(9), api.ErrKind}, {raw(254), api.ErrKind}, {raw(255), api.ErrKind},
		{raw(1, 0), api.ErrKind}, {raw(0, 2, 2), api.ErrKind}, {raw(4, 97, 0, 1, 7), api.ErrKind}, {raw(3, 1, 2, 3, 4, 5, 6, 7, 8, 9), api.ErrKind},
		{raw(2), api.ErrShort}, {raw(1, 2), api.ErrShort}, {raw(3), api.ErrShort}, {raw(3, 0), api.ErrShort}, {raw(3, 1, 2, 3, 4, 5, 6, 7), api.ErrShort},
		{raw(4), api.ErrShort}, {raw(4, 97), api.ErrShort}, {raw(4, 0), api.ErrShort}, {raw(4, 0, 255), api.ErrShort}, {raw(4, 0, 255, 0), api.ErrShort}, {raw(4, 1), api.ErrShort},
		{raw(5), api.ErrShort}, {raw(5, 255), api.ErrShort}, {raw(5, 255, 0), api.ErrShort}, {raw(5, 0, 1, 2), api.ErrShort},
		{raw(2, 2), api.ErrField}, {raw(2, 3), api.ErrField}, {raw(2, 254), api.ErrField}, {raw(2, 255), api.ErrField}, {raw(1, 2, 1, 2, 128), api.ErrField},
		{raw(4, 0, 0), api.ErrField}, {raw(4, 0, 2), api.ErrField}, {raw(4, 0, 254), api.ErrField}, {raw(5, 97, 0, 0, 1), api.ErrField}, {raw(5, 0, 255, 0, 3), api.ErrField},
		// the one that is met first, though another one follows
		{raw(4, 0, 2, 97), api.ErrField}, {raw(2, 2, 9), api.ErrField}, {raw(9, 4, 97), api.ErrKind}, {raw(2, 1, 9, 2, 2), api.ErrKind}, {raw(2, 7, 2), api.ErrField},
	} {
		checkDecode(t, c.b, nil, nil, c.e)
		checkDecode(t, c.b, []bool{false, false, false}, nil, c.e)
		checkDecode(t, turnedBack(c.b), []bool{true, true, true, true}, nil, c.e)
	}
}

// 3.2: bits are turned back at the places that desc calls true, and at no others.
func TestDecodeTurned(t *testing.T) {
	checkDecode(t, raw(1), []bool{true}, nil, api.ErrKind)
	checkDecode(t, raw(254), nil, nil, api.ErrKind)
	checkDecode(t, raw(1, 254), []bool{false, true}, row(null, null), api.OK)
	checkDecode(t, raw(1, 254), []bool{true, false}, nil, api.ErrKind)
	checkDecode(t, raw(254, 1, 1), []bool{true}, row(null, null, null), api.OK)
	checkDecode(t, raw(253, 1), []bool{true}, nil, api.ErrField)
	checkDecode(t, raw(253, 255, 2, 1), []bool{true}, row(boolOf(0), boolOf(1)), api.OK)
	checkDecode(t, raw(251, 255, 0, 158), []bool{true}, nil, api.ErrShort)
	checkDecode(t, raw(251, 255, 0, 158, 255, 254), []bool{true}, row(textOf("\x00a")), api.OK)
	checkDecode(t, raw(251, 255, 1), []bool{true}, nil, api.ErrField)
}

// latin is bytes as a text of one rune each, as a pattern over bytes needs it.
func latin(b []byte) string {
	l := []rune{}
	for _, c := range b {
		l = append(l, rune(c))
	}
	return string(l)
}

var (
	whole = regexp.MustCompile(`^(?s:\x01|\x02[\x00\x01]|\x03.{8}|[\x04\x05]([^\x00]|\x00\xff)*?\x00\x01)`)
	kind  = regexp.MustCompile(`^[^\x01-\x05]`)
	field = regexp.MustCompile(`^(?s:\x02[^\x00\x01]|[\x04\x05]([^\x00]|\x00\xff)*\x00[^\x01\xff])`)
)

// verdict is the error of bytes, by patterns, for a desc that is the same at all places.
func verdict(s string) api.Errno {
	for s != "" {
		part := whole.FindString(s)
		switch {
		case part != "":
			s = s[len(part):]
		case kind.MatchString(s):
			return api.ErrKind
		case field.MatchString(s):
			return api.ErrField
		default:
			return api.ErrShort
		}
	}
	return api.OK
}

// 3.2, 3.4: all short rows of bytes out of some. What is decoded is the bytes
// when it is encoded again.
func TestDecodeAll(t *testing.T) {
	letters := raw(0, 1, 2, 3, 4, 5, 6, 255)
	all := [][]byte{{}}
	for from := 0; len(all[from]) < 6; from++ {
		for _, c := range letters {
			all = append(all, append(slices.Clone(all[from]), c))
		}
	}
	count := map[api.Errno]int{}
	turned := []bool{true, true, true, true, true, true}
	for _, b := range all {
		want := verdict(latin(b))
		count[want]++
		r, e := Decode(b, nil)
		if e != want || e != api.OK && len(r) != 0 {
			t.Fatalf("Decode(%v): %#v, error %d, want %d", b, r, e, want)
		}
		if e == api.OK {
			checkEncode(t, r, nil, b)
		}
		checkDecode(t, turnedBack(b), turned, r, want)
	}
	if len(count) != 4 {
		t.Errorf("not each answer was met: %v", count)
	}
}

// 3.2, 3.4: rows are cut off, and single bytes of them turned.
func TestDecodeDamaged(t *testing.T) {
	r := row(textOf("a\x00"), null, intOf(-2), boolOf(1), blobOf("\xff"))
	for _, desc := range [][]bool{nil, {false, true, true}, {true, false, false, true, true}} {
		b := encoded(t, r, desc)
		for n := range b {
			back, e := Decode(b[:n], desc)
			if e == api.OK && !slices.Equal(back, r[:len(back)]) || e != api.OK && (e != api.ErrShort || len(back) != 0) {
				t.Errorf("Decode(%v, %v): %#v, error %d", b[:n], desc, back, e)
			}
			for c := range 256 {
				other := slices.Clone(b)
				other[n] = byte(c)
				if back, e := Decode(other, desc); e == api.OK {
					checkEncode(t, back, desc, other)
				} else if len(back) != 0 {
					t.Errorf("Decode(%v, %v): %#v beside error %d", other, desc, back, e)
				}
			}
		}
	}
}

// 3.3: the examples and the edges.
func TestNext(t *testing.T) {
	for _, c := range []struct{ b, want []byte }{
		{raw(0), raw(1)}, {raw(1), raw(2)}, {raw(254), raw(255)}, {raw(127), raw(128)}, {raw(1, 255), raw(2)}, {raw(1, 2), raw(1, 3)},
		{raw(1, 254), raw(1, 255)}, {raw(0, 255, 255), raw(1)}, {raw(255, 0), raw(255, 1)}, {raw(255, 255, 7, 255, 255), raw(255, 255, 8)}, {raw(1, 255, 2), raw(1, 255, 3)},
		{append(raw(3), bytes.Repeat(raw(255), 5000)...), raw(4)},
	} {
		if b, ok := Next(c.b); !bytes.Equal(b, c.want) || !ok {
			t.Errorf("Next(%v): %v, %v, want %v", c.b, b, ok, c.want)
		}
	}
	for _, b := range [][]byte{nil, {}, {255}, {255, 255}, bytes.Repeat(raw(255), 5000)} {
		if next, ok := Next(b); len(next) != 0 || ok {
			t.Errorf("Next(%v): %v, %v, want none", b, next, ok)
		}
	}
}

// someRows is rows of right values, of several lengths, some of them the
// beginnings of others.
func someRows() [][]api.Value {
	l := [][]api.Value{nil}
	for _, v := range rightValues() {
		l = append(l, row(v))
	}
	few := row(null, boolOf(0), boolOf(1), intOf(-1), intOf(0), textOf(""), textOf("\x00"), textOf("\x01"), textOf("a"), textOf("\xff"), blobOf(""), blobOf("\x00\xff"))
	for _, a := range few {
		for _, b := range few {
			l = append(l, row(a, b))
		}
		l = append(l, row(a, null, a), row(a, a, null), row(a, a, textOf("\x00\x01")))
	}
	return l
}

// 3.4: bytes stand in the order of their rows.
func TestOrder(t *testing.T) {
	l := someRows()
	for _, desc := range descs() {
		made := [][]byte{}
		for _, r := range l {
			made = append(made, encoded(t, r, desc))
		}
		for i, a := range l {
			for j, b := range l {
				if want := value.Rows(a, b, desc); bytes.Compare(made[i], made[j]) != want {
					t.Fatalf("the bytes of %#v and %#v, %v stand otherwise than %d", a, b, desc, want)
				}
			}
		}
	}
}

// 3.4: Decode of Encode is the row.
func TestBothWays(t *testing.T) {
	for _, r := range someRows() {
		for _, desc := range descs() {
			checkDecode(t, encoded(t, r, desc), desc, r, api.OK)
		}
	}
}

// 3.4: what begins with some bytes stands ahead of their Next, and just that
// lies between the two.
func TestNextAndOrder(t *testing.T) {
	letters := raw(0, 1, 2, 254, 255)
	all := [][]byte{{}}
	for from := 0; len(all[from]) < 4; from++ {
		for _, c := range letters {
			all = append(all, append(slices.Clone(all[from]), c))
		}
	}
	for _, b := range all {
		next, ok := Next(b)
		for _, x := range all {
			ahead := !ok || bytes.Compare(x, next) < 0
			if between := ahead && bytes.Compare(x, b) >= 0; between != bytes.HasPrefix(x, b) {
				t.Fatalf("%v, from %v to Next %v, %v: %v", x, b, next, ok, between)
			}
		}
	}
}

// R1: no call panics, whatever values and bytes it is given.
func TestAnyArguments(t *testing.T) {
	for _, v := range append(rightValues(), wrongValues()...) {
		for _, desc := range descs() {
			b, e := Encode(row(v), desc)
			if (e == api.OK) != (value.Check(v) == api.OK) {
				t.Errorf("Encode(%#v, %v): error %d", v, desc, e)
			}
			Decode(append(b, []byte(v.Text)...), desc)
			Next([]byte(v.Text))
		}
	}
}
