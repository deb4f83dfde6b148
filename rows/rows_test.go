package rows

import (
	"bytes"
	"encoding/binary"
	"math"
	"math/big"
	"regexp"
	"slices"
	"strings"
	"testing"

	"quarry/api"
	"quarry/value"
)

var null = api.Value{}

func boolOf(n int64) api.Value { return api.Value{Kind: api.Bool, Int: n} }

func intOf(n int64) api.Value { return api.Value{Kind: api.Int, Int: n} }

func textOf(s string) api.Value { return api.Value{Kind: api.Text, Text: s} }

func blobOf(s string) api.Value { return api.Value{Kind: api.Blob, Text: s} }

func row(l ...api.Value) []api.Value { return l }

func raw(l ...byte) []byte { return l }

func joined(l ...[]byte) []byte { return bytes.Join(l, nil) }

// brief is the beginning of a list, as a failure tells it.
func brief[T any](l []T) []T { return l[:min(len(l), 30)] }

// numbers is numbers at which a group, or the sign, turns.
func numbers() []int64 {
	l := []int64{0, math.MaxInt64, math.MaxInt64 - 1, 0x0102030405060708}
	for bit := range 63 {
		l = append(l, 1<<bit-1, 1<<bit, 1<<bit+1)
	}
	for _, n := range slices.Clone(l) {
		l = append(l, -n-1)
	}
	return l
}

// texts is texts whose bytes could be mistaken for others of a row.
func texts() []string {
	return []string{"", "\x00", "\x00\x00", "\x01", "\x01\x00", "\x04", "\x7f", "\x80", "\x80\x00", "a", "ab", "b", "\xfe", "\xff", "\xff\xff", "\xc3\xa9", strings.Repeat("\x00", 127), strings.Repeat("\xff", 128), strings.Repeat("x", 129), strings.Repeat("yz", 1000)}
}

// rightValues is right values of each kind.
func rightValues() []api.Value {
	l := row(null, boolOf(0), boolOf(1))
	for _, n := range numbers() {
		l = append(l, intOf(n))
	}
	for _, s := range texts() {
		l = append(l, textOf(s), blobOf(s))
	}
	return l
}

// wrongValues is values that are not right, of each reason.
func wrongValues() []api.Value {
	return row(
		api.Value{Int: 1}, api.Value{Text: "a"}, boolOf(2), boolOf(-1), boolOf(256), api.Value{Kind: api.Bool, Text: "a"},
		api.Value{Kind: api.Int, Text: "a"}, api.Value{Kind: api.Text, Int: 1}, api.Value{Kind: api.Blob, Int: -1},
		api.Value{Kind: 5}, api.Value{Kind: -1}, api.Value{Kind: 256}, api.Value{Kind: 258}, api.Value{Kind: math.MinInt}, api.Value{Kind: math.MaxInt})
}

// someRows is rows of right values, of several lengths, some of them the
// beginnings of others.
func someRows() [][]api.Value {
	l := [][]api.Value{nil}
	for _, v := range rightValues() {
		l = append(l, row(v))
	}
	few := row(null, boolOf(0), boolOf(1), intOf(0), intOf(-1), intOf(1), intOf(64), intOf(-65), textOf(""), textOf("\x00"), textOf("a"), blobOf(""), blobOf("\x00"), blobOf("\xff\x01"))
	for _, a := range few {
		for _, b := range few {
			l = append(l, row(a, b))
		}
		l = append(l, row(a, null, a), row(a, a, null), row(a, a, a, a))
	}
	for _, n := range []int{127, 128, 129, 300} {
		l = append(l, make([]api.Value, n), slices.Repeat(row(boolOf(1)), n))
	}
	return l
}

func encoded(t *testing.T, r []api.Value) []byte {
	t.Helper()
	b, e := Encode(r)
	if e != api.OK {
		t.Fatalf("Encode(%#v): error %d", brief(r), e)
	}
	return b
}

// checkEncode holds Encode and, beside it, Size against what is wanted.
func checkEncode(t *testing.T, r []api.Value, want []byte) {
	t.Helper()
	if b, e := Encode(r); !bytes.Equal(b, want) || e != api.OK {
		t.Errorf("Encode(%#v): %v, error %d, want %v", brief(r), brief(b), e, brief(want))
	}
	if n := Size(r); n != len(want) {
		t.Errorf("Size(%#v): %d, want %d", brief(r), n, len(want))
	}
}

// checkRefused holds Encode and, beside it, Size against what a refusal tells.
func checkRefused(t *testing.T, r []api.Value, e api.Errno, size int) {
	t.Helper()
	if b, x := Encode(r); len(b) != 0 || x != e {
		t.Errorf("Encode of %d values: %v, error %d, want none, %d", len(r), brief(b), x, e)
	}
	if n := Size(r); n != size {
		t.Errorf("Size of %d values: %d, want %d", len(r), n, size)
	}
}

func checkDecode(t *testing.T, b []byte, want []api.Value, e api.Errno) {
	t.Helper()
	if r, x := Decode(b); !slices.Equal(r, want) || x != e {
		t.Errorf("Decode(%v): %#v, error %d, want %#v, %d", brief(b), brief(r), x, brief(want), e)
	}
}

// 4.1, 4.2: rows and their bytes, written out, both ways round.
func TestRows(t *testing.T) {
	for _, c := range []struct {
		r []api.Value
		b []byte
	}{
		{nil, raw(0)},
		{row(), raw(0)},
		{row(null), raw(1, 0)},
		{row(null, null, null), raw(3, 0, 0, 0)},
		{row(boolOf(0)), raw(1, 1, 0)},
		{row(boolOf(1)), raw(1, 1, 1)},
		{row(intOf(0)), raw(1, 2, 0)},
		{row(intOf(-1)), raw(1, 2, 1)},
		{row(intOf(1)), raw(1, 2, 2)},
		{row(intOf(-2)), raw(1, 2, 3)},
		{row(intOf(63)), raw(1, 2, 126)},
		{row(intOf(-64)), raw(1, 2, 127)},
		{row(intOf(64)), raw(1, 2, 128, 1)},
		{row(intOf(-65)), raw(1, 2, 129, 1)},
		{row(intOf(300)), raw(1, 2, 216, 4)},
		{row(intOf(8191)), raw(1, 2, 254, 127)},
		{row(intOf(8192)), raw(1, 2, 128, 128, 1)},
		{row(intOf(math.MaxInt64)), raw(1, 2, 254, 255, 255, 255, 255, 255, 255, 255, 255, 1)},
		{row(intOf(math.MinInt64)), raw(1, 2, 255, 255, 255, 255, 255, 255, 255, 255, 255, 1)},
		{row(textOf("")), raw(1, 3, 0)},
		{row(textOf("a")), raw(1, 3, 1, 97)},
		{row(textOf("\x00\x80\xff")), raw(1, 3, 3, 0, 128, 255)},
		{row(blobOf("")), raw(1, 4, 0)},
		{row(blobOf("\xff\x00")), raw(1, 4, 2, 255, 0)},
		{row(null, boolOf(1), intOf(-1), textOf("ab")), raw(4, 0, 1, 1, 2, 1, 3, 2, 97, 98)},
		{row(blobOf("b"), textOf(""), boolOf(0), null, intOf(5)), raw(5, 4, 1, 98, 3, 0, 1, 0, 0, 2, 10)},
		{make([]api.Value, 127), append(raw(127), make([]byte, 127)...)},
		{make([]api.Value, 128), append(raw(128, 1), make([]byte, 128)...)},
		{make([]api.Value, 300), append(raw(172, 2), make([]byte, 300)...)},
		{row(textOf(strings.Repeat("x", 127))), joined(raw(1, 3, 127), bytes.Repeat(raw('x'), 127))},
		{row(blobOf(strings.Repeat("x", 128)), null), joined(raw(2, 4, 128, 1), bytes.Repeat(raw('x'), 128), raw(0))},
	} {
		checkEncode(t, c.r, c.b)
		checkDecode(t, c.b, c.r, api.OK)
	}
}

// 4.1, 4.2: numbers of every width, as another writer has them.
func TestNumbers(t *testing.T) {
	for _, n := range numbers() {
		b := binary.AppendVarint(raw(1, api.Int), n)
		checkEncode(t, row(intOf(n)), b)
		checkDecode(t, b, row(intOf(n)), api.OK)
	}
}

// 4.1, 4.2: a row of MaxRow bytes, and one of one more, by its values and by a text.
func TestMaxRow(t *testing.T) {
	most := make([]api.Value, api.MaxRow-2)
	checkEncode(t, most, append(raw(254, 15), make([]byte, api.MaxRow-2)...))
	checkDecode(t, encoded(t, most), most, api.OK)
	checkRefused(t, append(most, null), api.ErrLong, api.MaxRow+1)
	for _, of := range []func(string) api.Value{textOf, blobOf} {
		s := strings.Repeat("q", api.MaxRow-4)
		long := row(of(s))
		checkEncode(t, long, joined(raw(1, byte(long[0].Kind), 252, 15), []byte(s)))
		checkDecode(t, encoded(t, long), long, api.OK)
		checkRefused(t, row(of(s+"q")), api.ErrLong, api.MaxRow+1)
		checkRefused(t, row(of(s), null), api.ErrLong, api.MaxRow+1)
		checkRefused(t, row(of(s), intOf(math.MinInt64)), api.ErrLong, api.MaxRow+11)
	}
}

// 4.1: Size of rows of any length.
func TestSizeLong(t *testing.T) {
	for _, c := range []struct {
		r    []api.Value
		size int
	}{
		{row(textOf(strings.Repeat("x", 1<<14-1))), 2 + 2 + 1<<14 - 1},
		{row(textOf(strings.Repeat("x", 1<<14))), 2 + 3 + 1<<14},
		{row(blobOf(strings.Repeat("x", 1<<21)), boolOf(1)), 2 + 4 + 1<<21 + 2},
		{make([]api.Value, 1<<14-1), 2 + 1<<14 - 1},
		{make([]api.Value, 1<<14), 3 + 1<<14},
		{slices.Repeat(row(intOf(math.MinInt64)), 1000), 2 + 11*1000},
		{slices.Repeat(row(boolOf(0)), 2000), 2 + 2*2000},
	} {
		checkRefused(t, c.r, api.ErrLong, c.size)
	}
}

// 4.1: a value that is not right, alone, at each place among right ones, and in
// a row that is too long.
func TestEncodeWrong(t *testing.T) {
	long := blobOf(strings.Repeat("x", 5000))
	for _, v := range wrongValues() {
		for _, r := range [][]api.Value{row(v), row(v, null), row(intOf(1), v), row(textOf("a"), v, boolOf(1)), row(v, v), row(long, v), row(v, long), append(make([]api.Value, 3000), v)} {
			checkRefused(t, r, api.ErrField, 0)
		}
	}
}

// tooGreat is numbers without sign that are above 2^64 - 1, or go on where
// nothing that is one could.
func tooGreat() [][]byte {
	nine, ones := bytes.Repeat(raw(128), 9), bytes.Repeat(raw(255), 9)
	return [][]byte{
		joined(nine, raw(2)), joined(ones, raw(2)), joined(nine, raw(3)), joined(ones, raw(127)), joined(nine, raw(128)), joined(nine, raw(129)), joined(ones, raw(255)),
		joined(nine, raw(128, 0)), joined(nine, raw(128, 1)), joined(ones, raw(129, 1)), joined(ones, raw(255, 255, 127)), bytes.Repeat(raw(128), 100), append(bytes.Repeat(raw(128), 100), 1),
	}
}

// endsInNought is numbers without sign whose last byte is 0, though there are others.
func endsInNought() [][]byte {
	l := [][]byte{{129, 0}, {255, 0}, {128, 129, 0}, {255, 255, 255, 0}}
	for n := 1; n <= 9; n++ {
		l = append(l, append(bytes.Repeat(raw(128), n), 0))
	}
	return l
}

// 4.2: a number that is not written so, wherever a number stands, whatever
// follows it.
func TestDecodeNumbers(t *testing.T) {
	for _, number := range append(tooGreat(), endsInNought()...) {
		for _, ahead := range [][]byte{{}, {1, 2}, {1, 3}, {1, 4}, {3, 0, 1, 1, 2}, {2, 3, 1, 97, 4}, {255, 1, 0, 2}} {
			for _, behind := range [][]byte{{}, {0}, {1}, {5}, {128}, {255, 255}} {
				checkDecode(t, joined(ahead, number, behind), nil, api.ErrField)
			}
		}
	}
}

// greatest is counts that are more than any bytes can keep, up to 2^64 - 1.
func greatest() []uint64 {
	return []uint64{api.MaxRow, api.MaxRow + 1, 1 << 20, 1<<31 - 1, 1 << 31, 1 << 32, 1<<32 + 1, 1 << 48, 1<<63 - 1, 1 << 63, 1<<63 + 1, 1<<64 - 2, 1<<64 - 1}
}

// 4.2: counts of values and of bytes are any numbers; they are read as far as
// there is something, and what is met there is told.
func TestDecodeCounts(t *testing.T) {
	for _, n := range greatest() {
		values := binary.AppendUvarint(nil, n)
		checkDecode(t, values, nil, api.ErrShort)
		checkDecode(t, append(values, make([]byte, 1000)...), nil, api.ErrShort)
		checkDecode(t, append(values, bytes.Repeat(raw(1, 1), 1000)...), nil, api.ErrShort)
		checkDecode(t, append(values, make([]byte, api.MaxRow-len(values))...), nil, api.ErrShort)
		checkDecode(t, append(values, 0, 0, 5), nil, api.ErrKind)
		checkDecode(t, append(values, 0, 1, 2), nil, api.ErrField)
		checkDecode(t, append(values, 0, 3, 128, 0), nil, api.ErrField)
		for _, kind := range raw(api.Text, api.Blob) {
			text := binary.AppendUvarint(raw(1, kind), n)
			checkDecode(t, text, nil, api.ErrShort)
			checkDecode(t, append(text, 5, 5, 5), nil, api.ErrShort)
			checkDecode(t, append(text, make([]byte, api.MaxRow-len(text))...), nil, api.ErrShort)
			checkDecode(t, append(values, text[1:]...), nil, api.ErrShort)
		}
		checkDecode(t, binary.AppendUvarint(raw(1, api.Int), n), row(intOf(int64(n>>1)^-int64(n&1))), api.OK)
	}
}

// 4.2: what is wrong, by hand.
func TestDecodeErrors(t *testing.T) {
	for _, c := range []struct {
		b []byte
		e api.Errno
	}{
		{nil, api.ErrShort}, {raw(), api.ErrShort}, {raw(128), api.ErrShort}, {raw(255, 128), api.ErrShort}, {bytes.Repeat(raw(255), 9), api.ErrShort},
		{raw(1), api.ErrShort}, {raw(2, 0), api.ErrShort}, {raw(1, 1), api.ErrShort}, {raw(1, 2), api.ErrShort}, {raw(1, 2, 128), api.ErrShort}, {raw(1, 2, 128, 255), api.ErrShort},
		{raw(1, 3), api.ErrShort}, {raw(1, 3, 128), api.ErrShort}, {raw(1, 3, 1), api.ErrShort}, {raw(1, 3, 3, 97, 98), api.ErrShort}, {raw(1, 4), api.ErrShort}, {raw(1, 4, 2, 0), api.ErrShort}, {raw(2, 4, 2, 0, 0), api.ErrShort},
		{raw(1, 5), api.ErrKind}, {raw(1, 6), api.ErrKind}, {raw(1, 127), api.ErrKind}, {raw(1, 128), api.ErrKind}, {raw(1, 129), api.ErrKind}, {raw(1, 254), api.ErrKind}, {raw(1, 255), api.ErrKind}, {raw(2, 0, 5), api.ErrKind}, {raw(2, 3, 1, 97, 98), api.ErrKind},
		{raw(1, 1, 2), api.ErrField}, {raw(1, 1, 3), api.ErrField}, {raw(1, 1, 128), api.ErrField}, {raw(1, 1, 129), api.ErrField}, {raw(1, 1, 255), api.ErrField}, {raw(2, 1, 1, 1, 2), api.ErrField},
		{raw(128, 0), api.ErrField}, {raw(129, 0), api.ErrField}, {raw(1, 2, 128, 0), api.ErrField}, {raw(1, 3, 129, 0, 97), api.ErrField}, {raw(1, 4, 128, 0), api.ErrField},
		{raw(0, 0), api.ErrMore}, {raw(0, 255), api.ErrMore}, {raw(1, 0, 0), api.ErrMore}, {raw(1, 1, 1, 1), api.ErrMore}, {raw(1, 2, 2, 2), api.ErrMore}, {raw(1, 3, 1, 97, 98), api.ErrMore}, {raw(1, 4, 0, 0), api.ErrMore},
		// the one that is met first, though another one follows
		{raw(2, 5, 1, 2), api.ErrKind}, {raw(2, 1, 2, 5), api.ErrField}, {raw(3, 1, 2), api.ErrField}, {raw(9, 5), api.ErrKind}, {raw(1, 5, 0), api.ErrKind}, {raw(1, 1, 2, 0), api.ErrField}, {raw(128, 0, 5), api.ErrField},
		{raw(2, 3, 9, 5), api.ErrShort}, {raw(2, 3, 2, 5, 5), api.ErrShort}, {raw(0, 128, 0), api.ErrMore}, {raw(0, 5), api.ErrMore}, {raw(1, 0, 1, 2), api.ErrMore},
	} {
		checkDecode(t, c.b, nil, c.e)
	}
}

// 4.2: more than MaxRow bytes, whatever they are.
func TestDecodeLong(t *testing.T) {
	values := append(raw(255, 15), make([]byte, api.MaxRow-1)...)
	for _, b := range [][]byte{
		values, append(raw(254, 15), make([]byte, api.MaxRow-1)...), joined(raw(1, 4, 253, 15), make([]byte, api.MaxRow-3)),
		make([]byte, api.MaxRow+1), bytes.Repeat(raw(255), api.MaxRow+1), bytes.Repeat(raw(1), api.MaxRow+1), bytes.Repeat(raw(5), 1<<20), bytes.Repeat(raw(128), 1<<16),
	} {
		if r, e := Decode(b); len(r) != 0 || e != api.ErrLong {
			t.Errorf("Decode of %d bytes: %d values, error %d, want none, %d", len(b), len(r), e, api.ErrLong)
		}
	}
	checkDecode(t, values[:api.MaxRow], nil, api.ErrShort)
	checkDecode(t, make([]byte, api.MaxRow), nil, api.ErrMore)
	checkDecode(t, bytes.Repeat(raw(255), api.MaxRow), nil, api.ErrField)
	checkDecode(t, bytes.Repeat(raw(5), api.MaxRow), nil, api.ErrKind)
}

// latin is bytes as a text of one rune each, as a pattern over bytes needs it.
func latin(b []byte) string {
	l := []rune{}
	for _, c := range b {
		l = append(l, rune(c))
	}
	return string(l)
}

var (
	goodNumber = regexp.MustCompile(`^([\x00-\x7f]|[\x80-\xff]{1,8}[\x01-\x7f]|[\x80-\xff]{9}\x01)`)
	badNumber  = regexp.MustCompile(`^([\x80-\xff]{1,9}\x00|[\x80-\xff]{9}[^\x01])`)
)

// judge goes through a text of bytes, by patterns, and remembers what is wrong.
type judge struct {
	rest []rune
	e    api.Errno
}

func (j *judge) wrong(e api.Errno) {
	if j.e == api.OK {
		j.e = e
	}
}

func (j *judge) bytes(n *big.Int) {
	if n.Cmp(big.NewInt(int64(len(j.rest)))) > 0 {
		j.wrong(api.ErrShort)
		return
	}
	j.rest = j.rest[n.Int64():]
}

func (j *judge) number() *big.Int {
	n, s := new(big.Int), string(j.rest)
	part := []rune(goodNumber.FindString(s))
	switch {
	case len(part) > 0:
		j.rest = j.rest[len(part):]
	case badNumber.MatchString(s):
		j.wrong(api.ErrField)
	default:
		j.wrong(api.ErrShort)
	}
	for _, c := range slices.Backward(part) {
		n.Add(n.Mul(n, big.NewInt(128)), big.NewInt(int64(c)%128))
	}
	return n
}

func (j *judge) value() {
	if len(j.rest) == 0 {
		j.wrong(api.ErrShort)
		return
	}
	kind := j.rest[0]
	j.rest = j.rest[1:]
	switch {
	case kind > 4:
		j.wrong(api.ErrKind)
	case kind > 2:
		j.bytes(j.number())
	case kind == 2:
		j.number()
	case kind == 1 && len(j.rest) == 0:
		j.wrong(api.ErrShort)
	case kind == 1 && j.rest[0] > 1:
		j.wrong(api.ErrField)
	case kind == 1:
		j.rest = j.rest[1:]
	}
}

// verdict is the error of bytes, as the patterns have it.
func verdict(b []byte) api.Errno {
	if len(b) > api.MaxRow {
		return api.ErrLong
	}
	j := judge{rest: []rune(latin(b))}
	for left := j.number(); left.Sign() > 0 && j.e == api.OK; left.Sub(left, big.NewInt(1)) {
		j.value()
	}
	if len(j.rest) > 0 {
		j.wrong(api.ErrMore)
	}
	return j.e
}

// checkVerdict: Decode answers what the patterns say; of a row that it answers
// the bytes are those that were read (4.3).
func checkVerdict(t *testing.T, b []byte) api.Errno {
	t.Helper()
	want := verdict(b)
	r, e := Decode(b)
	if e != want || e != api.OK && len(r) != 0 {
		t.Fatalf("Decode(%v): %#v, error %d, want %d", brief(b), brief(r), e, want)
	}
	if e == api.OK {
		checkEncode(t, r, b)
	}
	return e
}

// 4.2, 4.3: all short rows of bytes out of some.
func TestDecodeAll(t *testing.T) {
	letters := raw(0, 1, 2, 3, 4, 5, 128, 129)
	all := [][]byte{{}}
	for from := 0; len(all[from]) < 6; from++ {
		for _, c := range letters {
			all = append(all, append(slices.Clone(all[from]), c))
		}
	}
	count := map[api.Errno]int{}
	for _, b := range all {
		count[checkVerdict(t, b)]++
	}
	if len(count) != 5 {
		t.Errorf("not each answer was met: %v", count)
	}
}

// 4.2, 4.3: rows of which single bytes are others.
func TestDecodeDamaged(t *testing.T) {
	for _, r := range [][]api.Value{
		row(textOf("a\x00"), null, intOf(-2), boolOf(1), blobOf("\xff")),
		row(intOf(math.MinInt64), intOf(math.MaxInt64), textOf("")),
		row(blobOf(strings.Repeat("\x01", 130)), intOf(300)),
		make([]api.Value, 130),
	} {
		b := encoded(t, r)
		for n := range b {
			for c := range 256 {
				other := slices.Clone(b)
				other[n] = byte(c)
				checkVerdict(t, other)
			}
		}
	}
}

// 4.2, 4.3: bytes that end too early, at each place, and such with something left.
func TestDecodeCutOff(t *testing.T) {
	for _, r := range someRows() {
		b := encoded(t, r)
		for n := range b {
			checkDecode(t, b[:n], nil, api.ErrShort)
		}
		for _, behind := range [][]byte{{0}, {1}, {5}, {128}, {255, 255, 255}} {
			checkDecode(t, joined(b, behind), nil, api.ErrMore)
		}
	}
}

// 4.3: Decode of Encode is the row, and Size what Encode has.
func TestBothWays(t *testing.T) {
	for _, r := range someRows() {
		b := encoded(t, r)
		checkDecode(t, b, r, api.OK)
		if n := Size(r); n != len(b) {
			t.Errorf("Size(%#v): %d, want %d", brief(r), n, len(b))
		}
	}
}

// 4.3: of rows that differ the bytes differ, and none is the beginning of
// another one's.
func TestNoBeginning(t *testing.T) {
	l, made := someRows(), [][]byte{}
	for _, r := range l {
		made = append(made, encoded(t, r))
	}
	for i, a := range made {
		for j, b := range made {
			if bytes.HasPrefix(b, a) && !slices.Equal(l[i], l[j]) {
				t.Fatalf("the bytes of %#v begin with those of %#v", brief(l[j]), brief(l[i]))
			}
		}
	}
}

// 4.1, 4.2 with R4: nothing that is handed in is changed, not even behind a
// list's end, and what is handed out stays as it is when that is.
func TestMemory(t *testing.T) {
	full := row(textOf("a"), intOf(1), null)
	r := slices.Clone(full)[:2]
	b := encoded(t, r)
	if Size(r); !slices.Equal(r[:3], full) {
		t.Errorf("Encode or Size changed what it was given: %#v", r[:3])
	}
	if again := encoded(t, r); &again[0] == &b[0] {
		t.Error("Encode answers one memory twice")
	}
	room := append(slices.Clone(b), 7, 7)[:len(b)]
	got, _ := Decode(room)
	if !bytes.Equal(room[:len(b)+2], append(slices.Clone(b), 7, 7)) {
		t.Errorf("Decode changed what it was given: %v", room[:len(b)+2])
	}
	clear(room)
	if !slices.Equal(got, r) {
		t.Errorf("Decode answers what it was given: %#v", got)
	}
	checkDecode(t, raw(1, 3, 2, 97, 98)[:4], nil, api.ErrShort)
}

// R1: no call panics, whatever values and bytes it is given.
func TestAnyArguments(t *testing.T) {
	for _, v := range append(rightValues(), wrongValues()...) {
		b, e := Encode(row(v))
		if (e == api.OK) != (value.Check(v) == api.OK) || (Size(row(v)) == 0) != (e == api.ErrField) {
			t.Errorf("Encode(%#v): error %d, Size %d", v, e, Size(row(v)))
		}
		checkVerdict(t, append(b, []byte(v.Text)...))
		checkVerdict(t, []byte(v.Text))
	}
}
