package disk

import (
	"bytes"
	"math"
	"math/rand"
	"slices"
	"testing"

	"quarry/api"
)

func filled(c byte) []byte { return bytes.Repeat([]byte{c}, api.PageSize) }

// marked is a page that differs from others of its kind, and from noughts, at
// each byte.
func marked(k int) []byte {
	b := make([]byte, api.PageSize)
	for i := range b {
		b[i] = byte(1 + (k*50+i)%255)
	}
	return b
}

func joined(l ...[]byte) []byte { return bytes.Join(l, nil) }

func made(t *testing.T, pages int) *Disk {
	t.Helper()
	d, e := New(pages)
	if e != api.OK || d == nil {
		t.Fatalf("New(%d): error %d", pages, e)
	}
	return d
}

func loaded(t *testing.T, image []byte) *Disk {
	t.Helper()
	d, e := Load(image)
	if e != api.OK || d == nil {
		t.Fatalf("Load of %d bytes: error %d", len(image), e)
	}
	return d
}

func checkRead(t *testing.T, d *Disk, n int, want []byte) {
	t.Helper()
	if b, e := d.Read(n); !bytes.Equal(b, want) || e != api.OK {
		t.Errorf("Read(%d): %v, error %d, want %v", n, b, e, want)
	}
}

func checkNoRead(t *testing.T, d *Disk, n int, want api.Errno) {
	t.Helper()
	if b, e := d.Read(n); len(b) != 0 || e != want {
		t.Errorf("Read(%d): %d bytes, error %d, want none, %d", n, len(b), e, want)
	}
}

func checkWrite(t *testing.T, d *Disk, n int, b []byte, want api.Errno) {
	t.Helper()
	if e := d.Write(n, b); e != want {
		t.Errorf("Write(%d) of %d bytes: error %d, want %d", n, len(b), e, want)
	}
}

func checkSync(t *testing.T, d *Disk, want api.Errno) {
	t.Helper()
	if e := d.Sync(); e != want {
		t.Errorf("Sync: error %d, want %d", e, want)
	}
}

func checkPending(t *testing.T, d *Disk, want ...int) {
	t.Helper()
	if l := d.Pending(); !slices.Equal(l, want) {
		t.Errorf("Pending: %v, want %v", l, want)
	}
}

func checkImage(t *testing.T, d *Disk, want []byte) {
	t.Helper()
	if b := d.Image(); !bytes.Equal(b, want) {
		t.Errorf("Image: %d bytes other than the %d that are wanted", len(b), len(want))
	}
}

func checkDown(t *testing.T, d *Disk, want bool) {
	t.Helper()
	if d.Down() != want {
		t.Errorf("Down: %t, want %t", d.Down(), want)
	}
}

// checkFresh: a disk without pending writes, not armed, with power, of these bytes.
func checkFresh(t *testing.T, d *Disk, image []byte) {
	t.Helper()
	checkDown(t, d, false)
	checkPending(t, d)
	checkImage(t, d, image)
	if n := d.Pages(); n != len(image)/api.PageSize {
		t.Errorf("Pages: %d, want %d", n, len(image)/api.PageSize)
	}
	c := d.Clone()
	for range 5 {
		checkSync(t, c, api.OK)
		checkWrite(t, c, 0, marked(1), api.OK)
	}
	c.Mend(nil, -1, 0)
	checkImage(t, c, joined(marked(1), image[api.PageSize:]))
}

// 5.1: disks of so many pages, all noughts.
func TestNew(t *testing.T) {
	for _, n := range []int{1, 2, 3, 4, 511, 512, api.MaxPages - 1, api.MaxPages} {
		d := made(t, n)
		checkFresh(t, d, make([]byte, n*api.PageSize))
		checkRead(t, d, 0, make([]byte, api.PageSize))
		checkRead(t, d, n-1, make([]byte, api.PageSize))
		checkNoRead(t, d, n, api.ErrRange)
	}
	for _, n := range []int{0, -1, -2, -api.MaxPages, api.MaxPages + 1, 2 * api.MaxPages, 1 << 32, 1<<32 + 1, 1<<55 + 1, math.MaxInt, math.MinInt} {
		if d, e := New(n); d != nil || e != api.ErrRange {
			t.Errorf("New(%d): error %d, want %d", n, e, api.ErrRange)
		}
	}
}

// 5.1: disks of any bytes; these last.
func TestLoad(t *testing.T) {
	for _, n := range []int{1, 2, 3, 100, api.MaxPages - 1, api.MaxPages} {
		image := make([]byte, n*api.PageSize)
		for i := range image {
			image[i] = byte(i * i / 7 >> (i % 5))
		}
		d := loaded(t, image)
		checkFresh(t, d, image)
		checkRead(t, d, 0, image[:api.PageSize])
		checkRead(t, d, n-1, image[len(image)-api.PageSize:])
		checkNoRead(t, d, n, api.ErrRange)
		d.Mend(nil, -1, 0)
		checkImage(t, d, image)
	}
	for _, n := range []int{0, 1, 2, 511, 513, 1023, 1025, api.MaxPages - 1, api.MaxPages + 1, api.MaxPages*api.PageSize - 1, api.MaxPages*api.PageSize + 1, (api.MaxPages+1)*api.PageSize - 1, (api.MaxPages + 1) * api.PageSize, 2 * api.MaxPages * api.PageSize} {
		if d, e := Load(bytes.Repeat([]byte{7}, n)); d != nil || e != api.ErrRange {
			t.Errorf("Load of %d bytes: error %d, want %d", n, e, api.ErrRange)
		}
	}
	if d, e := Load(nil); d != nil || e != api.ErrRange {
		t.Errorf("Load of nothing: error %d, want %d", e, api.ErrRange)
	}
}

// 5.1: pages of noughts, and such with a single other byte, in one image.
func TestLoadNoughts(t *testing.T) {
	first, last := make([]byte, api.PageSize), make([]byte, api.PageSize)
	first[0], last[api.PageSize-1] = 1, 1
	image := joined(filled(0), first, filled(0), last, filled(0), filled(9))
	d := loaded(t, image)
	checkFresh(t, d, image)
	checkRead(t, d, 1, first)
	checkRead(t, d, 2, filled(0))
	checkRead(t, d, 3, last)
}

// 5.2: what is written is read at once, the last write to a page, and lasts
// when it was synced.
func TestWriteReadSync(t *testing.T) {
	d := made(t, 3)
	checkWrite(t, d, 1, filled('a'), api.OK)
	checkRead(t, d, 1, filled('a'))
	checkWrite(t, d, 1, filled('b'), api.OK)
	checkWrite(t, d, 2, filled('c'), api.OK)
	checkWrite(t, d, 1, filled('d'), api.OK)
	checkRead(t, d, 0, filled(0))
	checkRead(t, d, 1, filled('d'))
	checkRead(t, d, 2, filled('c'))
	checkPending(t, d, 1, 1, 2, 1)
	checkSync(t, d, api.OK)
	checkPending(t, d)
	checkImage(t, d, joined(filled(0), filled('d'), filled('c')))
	checkWrite(t, d, 0, filled('e'), api.OK)
	checkWrite(t, d, 2, filled(0), api.OK)
	checkPending(t, d, 0, 2)
	checkRead(t, d, 2, filled(0))
	checkImage(t, d, joined(filled('e'), filled('d'), filled(0)))
	d.Mend(nil, -1, 0)
	checkImage(t, d, joined(filled(0), filled('d'), filled('c')))
	checkWrite(t, d, 1, filled(0), api.OK)
	checkSync(t, d, api.OK)
	d.Mend(nil, -1, 0)
	checkImage(t, d, joined(filled(0), filled(0), filled('c')))
}

// 5.2: a Sync of none, once and again.
func TestSyncNone(t *testing.T) {
	d := loaded(t, joined(marked(1), marked(2)))
	for range 3 {
		checkSync(t, d, api.OK)
		checkFresh(t, d, joined(marked(1), marked(2)))
	}
}

// 5.2: pages that are not there.
func TestNoPage(t *testing.T) {
	for _, pages := range []int{1, 4, api.MaxPages} {
		d := made(t, pages)
		for _, n := range []int{-1, -2, -pages, pages, pages + 1, api.MaxPages, 1 << 32, math.MaxInt, math.MinInt} {
			checkNoRead(t, d, n, api.ErrRange)
			for _, b := range [][]byte{nil, filled(1), make([]byte, 511), make([]byte, 513)} {
				checkWrite(t, d, n, b, api.ErrRange)
			}
		}
		checkFresh(t, d, make([]byte, pages*api.PageSize))
	}
}

// 5.2: bytes that are no page, and some that are.
func TestWriteLength(t *testing.T) {
	d := loaded(t, marked(3))
	for _, n := range []int{0, 1, 2, 510, 511, 513, 514, 1024, 1 << 16, 1 << 20} {
		checkWrite(t, d, 0, bytes.Repeat([]byte{1}, n), api.ErrField)
	}
	checkWrite(t, d, 0, nil, api.ErrField)
	checkFresh(t, d, marked(3))
	checkWrite(t, d, 0, marked(4), api.OK)
	checkRead(t, d, 0, marked(4))
}

// 5.3: the power fails at the step behind n more, a Write or a Sync, and nothing
// of that step is done.
func TestArm(t *testing.T) {
	for _, n := range []int{0, 1, 2, 3, 10, 100} {
		for _, atSync := range []bool{false, true} {
			d := loaded(t, joined(marked(1), marked(2)))
			d.Arm(n)
			want := marked(1)
			for i := range n {
				want = marked(i + 5)
				checkWrite(t, d, 0, want, api.OK)
			}
			checkDown(t, d, false)
			checkPending(t, d, make([]int, n)...)
			if atSync {
				checkSync(t, d, api.ErrDown)
			} else {
				checkWrite(t, d, 1, marked(3), api.ErrDown)
			}
			checkDown(t, d, true)
			checkPending(t, d, make([]int, n)...)
			checkImage(t, d, joined(want, marked(2)))
			d.Mend(nil, -1, 0)
			checkFresh(t, d, joined(marked(1), marked(2)))
		}
	}
}

// 5.3: Syncs are steps, too, also such of none.
func TestArmSyncs(t *testing.T) {
	d := made(t, 1)
	d.Arm(3)
	checkSync(t, d, api.OK)
	checkWrite(t, d, 0, marked(1), api.OK)
	checkSync(t, d, api.OK)
	checkSync(t, d, api.ErrDown)
	d.Mend(nil, -1, 0)
	checkFresh(t, d, marked(1))
}

// 5.3: a disk that is armed with a number below 0 does not fail, whatever it
// was armed with ahead.
func TestArmBelowNought(t *testing.T) {
	for _, ahead := range []int{-1, 0, 1, 5} {
		for _, n := range []int{-1, -2, -100, math.MinInt} {
			d := made(t, 2)
			d.Arm(ahead)
			d.Arm(n)
			for range 50 {
				checkWrite(t, d, 1, marked(1), api.OK)
				checkSync(t, d, api.OK)
			}
			checkDown(t, d, false)
		}
	}
}

// 5.3: a new Arm takes the place of the one ahead, be it shorter or longer, and
// counts from where it is.
func TestArmAgain(t *testing.T) {
	for first := range 5 {
		for gone := range first + 1 {
			for second := range 7 {
				d := made(t, 1)
				d.Arm(first)
				for range gone {
					checkSync(t, d, api.OK)
				}
				d.Arm(second)
				for range second {
					checkSync(t, d, api.OK)
				}
				checkSync(t, d, api.ErrDown)
			}
		}
	}
	d := made(t, 1)
	d.Arm(math.MaxInt)
	for range 50 {
		checkWrite(t, d, 0, marked(1), api.OK)
	}
	checkDown(t, d, false)
}

// 5.3: a call that answers another error, and one that is neither a Write nor a
// Sync, is no step.
func TestNoStep(t *testing.T) {
	for n := range 3 {
		d := made(t, 2)
		d.Arm(n)
		for i := range n + 1 {
			checkWrite(t, d, -1, filled(1), api.ErrRange)
			checkWrite(t, d, 2, filled(1), api.ErrRange)
			checkWrite(t, d, 0, make([]byte, 511), api.ErrField)
			checkWrite(t, d, 1, make([]byte, 513), api.ErrField)
			checkRead(t, d, 1, filled(0))
			checkNoRead(t, d, 2, api.ErrRange)
			checkPending(t, d, make([]int, i)...)
			d.Image()
			d.Clone().Sync()
			checkDown(t, d, false)
			want := api.OK
			if i == n {
				want = api.ErrDown
			}
			checkWrite(t, d, 0, marked(i), want)
		}
		checkDown(t, d, true)
	}
}

// failed is a disk without power, with pending writes to the pages 1, 0 and 1.
func failed(t *testing.T) *Disk {
	t.Helper()
	d := loaded(t, joined(marked(1), marked(2), marked(3)))
	checkWrite(t, d, 1, marked(4), api.OK)
	checkWrite(t, d, 0, marked(5), api.OK)
	checkWrite(t, d, 1, marked(6), api.OK)
	d.Arm(0)
	checkSync(t, d, api.ErrDown)
	return d
}

// 5.2, 5.3, 5.4: every call while the power has failed; ErrDown is told ahead
// of all else, and no Arm brings the power back.
func TestWhileDown(t *testing.T) {
	d := failed(t)
	for _, arm := range []int{0, -1, 1, 5} {
		d.Arm(arm)
		for _, n := range []int{0, 1, 2, 3, -1, math.MaxInt} {
			checkNoRead(t, d, n, api.ErrDown)
			for _, b := range [][]byte{nil, marked(9), make([]byte, 511), make([]byte, 513)} {
				checkWrite(t, d, n, b, api.ErrDown)
			}
		}
		checkSync(t, d, api.ErrDown)
		checkDown(t, d, true)
		checkPending(t, d, 1, 0, 1)
		checkImage(t, d, joined(marked(5), marked(6), marked(3)))
		checkDown(t, d.Clone(), true)
		if d.Pages() != 3 {
			t.Errorf("Pages: %d, want 3", d.Pages())
		}
	}
	d.Mend([]bool{false, true}, -1, 0)
	checkFresh(t, d, joined(marked(5), marked(2), marked(3)))
}

// tornAt is a page of which the first bytes are new, the others old.
func tornAt(fresh, old []byte, cut int) []byte { return joined(fresh[:cut], old[cut:]) }

// 5.4: what lasts of the pending writes to the pages 1, 0 and 1, by hand.
func TestMend(t *testing.T) {
	one, two, three, four, five, six := marked(1), marked(2), marked(3), marked(4), marked(5), marked(6)
	for _, c := range []struct {
		keep        []bool
		torn, cut   int
		first, next []byte
	}{
		{nil, -1, 0, one, two},
		{[]bool{}, -1, 512, one, two},
		{[]bool{false, false, false}, -1, 0, one, two},
		{[]bool{true}, -1, 0, one, four},
		{[]bool{true, false, false}, -1, 0, one, four},
		{[]bool{false, true}, -1, 0, five, two},
		{[]bool{false, false, true}, -1, 0, one, six},
		{[]bool{true, true}, -1, 0, five, four},
		{[]bool{true, true, true}, -1, 0, five, six},
		{[]bool{true, true, true, true, true}, -1, 0, five, six},
		{[]bool{false, false, false, true}, -1, 0, one, two},
		{[]bool{true, true, true}, -3, 9, five, six},
		{[]bool{true, true, true}, math.MinInt, 9, five, six},
		{[]bool{true, true, true}, 3, 9, five, six},
		{[]bool{true, true, true, true}, 3, 9, five, six},
		{[]bool{true, true, true}, math.MaxInt, 9, five, six},
		{nil, 3, 512, one, two},
		// one is torn, over what lasts then
		{nil, 0, 1, one, tornAt(four, two, 1)},
		{nil, 1, 1, tornAt(five, one, 1), two},
		{nil, 2, 1, one, tornAt(six, two, 1)},
		{[]bool{true}, 2, 10, one, tornAt(six, four, 10)},
		{[]bool{true, true, true}, 2, 10, five, tornAt(six, four, 10)},
		{[]bool{true, true, true}, 1, 300, tornAt(five, one, 300), six},
		{[]bool{true, true, true}, 0, 300, five, six},
		{[]bool{false, true}, 0, 511, five, tornAt(four, two, 511)},
		// a torn one is not kept as a whole, whatever is said of it
		{[]bool{true, true, true}, 0, 0, five, six},
		{[]bool{true, true, true}, 2, 0, five, four},
		{[]bool{true, true, true}, 2, -1, five, four},
		{[]bool{true, true, true}, 2, math.MinInt, five, four},
		{[]bool{true, true, true}, 1, 0, one, six},
		{nil, 1, 0, one, two},
		{nil, 1, -7, one, two},
		{nil, 1, 511, tornAt(five, one, 511), two},
		{nil, 1, 512, five, two},
		{nil, 1, 513, five, two},
		{nil, 2, math.MaxInt, one, six},
		{[]bool{false, false, false}, 0, 1 << 40, one, four},
	} {
		down := failed(t)
		up := loaded(t, joined(one, two, three))
		up.Arm(5)
		checkWrite(t, up, 1, four, api.OK)
		checkWrite(t, up, 0, five, api.OK)
		checkWrite(t, up, 1, six, api.OK)
		for _, d := range []*Disk{down, up} {
			d.Mend(c.keep, c.torn, c.cut)
			checkFresh(t, d, joined(c.first, c.next, three))
			checkRead(t, d, 0, c.first)
			checkRead(t, d, 1, c.next)
		}
		if t.Failed() {
			t.Fatalf("behind Mend(%v, %d, %d)", c.keep, c.torn, c.cut)
		}
	}
}

// 5.4: a write that is torn at each byte, over noughts, over bytes, and of noughts.
func TestMendCuts(t *testing.T) {
	for cut := range api.PageSize + 1 {
		for _, c := range []struct{ old, fresh []byte }{
			{filled(0), marked(1)}, {marked(2), marked(1)}, {marked(2), filled(0)}, {filled(0), filled(0)},
		} {
			d := loaded(t, c.old)
			checkWrite(t, d, 0, c.fresh, api.OK)
			d.Mend([]bool{true}, 0, cut)
			checkFresh(t, d, tornAt(c.fresh, c.old, cut))
		}
	}
}

// 5.4: a Mend of nothing while the power is there, and another one behind it.
func TestMendNothing(t *testing.T) {
	d := loaded(t, marked(1))
	d.Arm(0)
	d.Mend([]bool{true, true}, 0, 100)
	checkFresh(t, d, marked(1))
	checkWrite(t, d, 0, marked(2), api.OK)
	d.Mend([]bool{true}, -1, 0)
	d.Mend(nil, 0, 0)
	checkFresh(t, d, marked(2))
}

// 5.3, 5.4: a mended disk may be armed and fail again.
func TestFailAgain(t *testing.T) {
	d := made(t, 1)
	for n := range 20 {
		d.Arm(1)
		checkWrite(t, d, 0, marked(n), api.OK)
		checkSync(t, d, api.ErrDown)
		d.Mend([]bool{true}, -1, 0)
		checkFresh(t, d, marked(n))
	}
}

// 5.4: a clone goes its own way, and so does what it was made of.
func TestClone(t *testing.T) {
	d := loaded(t, joined(marked(1), marked(2), filled(0)))
	checkWrite(t, d, 0, marked(3), api.OK)
	c := d.Clone()
	same := joined(marked(3), marked(2), filled(0))
	checkWrite(t, c, 1, marked(4), api.OK)
	checkWrite(t, c, 0, marked(5), api.OK)
	checkImage(t, c, joined(marked(5), marked(4), filled(0)))
	checkImage(t, d, same)
	checkPending(t, d, 0)
	checkPending(t, c, 0, 1, 0)
	checkSync(t, c, api.OK)
	checkPending(t, d, 0)
	checkImage(t, d, same)
	checkWrite(t, d, 2, marked(6), api.OK)
	checkWrite(t, d, 2, marked(7), api.OK)
	checkPending(t, c)
	checkImage(t, c, joined(marked(5), marked(4), filled(0)))
	d.Mend(nil, -1, 0)
	checkFresh(t, d, joined(marked(1), marked(2), filled(0)))
	checkFresh(t, c, joined(marked(5), marked(4), filled(0)))
	checkWrite(t, d, 0, filled(0), api.OK)
	checkSync(t, d, api.OK)
	checkFresh(t, c, joined(marked(5), marked(4), filled(0)))
	checkFresh(t, d, joined(filled(0), marked(2), filled(0)))
}

// 5.4: writes to a disk and to clones of it stay apart, however many are pending.
func TestCloneWrites(t *testing.T) {
	d := made(t, 3)
	for n := range 20 {
		c, e := d.Clone(), d.Clone()
		checkWrite(t, c, 1, marked(1), api.OK)
		checkWrite(t, e, 2, marked(2), api.OK)
		checkWrite(t, d, 0, marked(3+n), api.OK)
		checkPending(t, c, append(make([]int, n), 1)...)
		checkPending(t, e, append(make([]int, n), 2)...)
		checkPending(t, d, make([]int, n+1)...)
		checkRead(t, c, 1, marked(1))
		checkRead(t, e, 2, marked(2))
		checkRead(t, d, 0, marked(3+n))
	}
}

// 5.4: a clone is armed as the disk is, fails by its own steps, and is mended
// alone.
func TestCloneArmed(t *testing.T) {
	d := made(t, 1)
	d.Arm(2)
	checkSync(t, d, api.OK)
	c := d.Clone()
	checkWrite(t, c, 0, marked(1), api.OK)
	checkSync(t, c, api.ErrDown)
	checkDown(t, d, false)
	checkSync(t, d, api.OK)
	checkWrite(t, d, 0, marked(2), api.ErrDown)
	e := c.Clone()
	c.Mend([]bool{true}, -1, 0)
	checkFresh(t, c, marked(1))
	checkDown(t, d, true)
	checkDown(t, e, true)
	checkPending(t, e, 0)
	e.Mend(nil, 0, 9)
	checkFresh(t, e, tornAt(marked(1), filled(0), 9))
	checkFresh(t, c, marked(1))
	d.Arm(-1)
	checkDown(t, d, true)
}

// 5.1, 5.2, 5.4 with R4: what is handed in is neither changed nor kept, what
// lies behind its end neither changed nor looked at.
func TestMemoryIn(t *testing.T) {
	image := append(marked(1), 7, 7)[:api.PageSize]
	d := loaded(t, image)
	clear(image)
	checkImage(t, d, marked(1))
	b := append(marked(2), 7, 7)[:api.PageSize]
	checkWrite(t, d, 0, b, api.OK)
	if !bytes.Equal(b[:api.PageSize+2], append(marked(2), 7, 7)) || !bytes.Equal(image[:api.PageSize+2], append(filled(0), 7, 7)) {
		t.Error("Load or Write changed what it was given")
	}
	clear(b)
	checkRead(t, d, 0, marked(2))
	checkSync(t, d, api.OK)
	b[3]++
	checkRead(t, d, 0, marked(2))
	checkWrite(t, d, 0, filled(1), api.OK)
	checkWrite(t, d, 0, filled(2), api.OK)
	checkWrite(t, d, 0, filled(3), api.OK)
	keep := []bool{true, false, true, true}[:2]
	d.Mend(keep, 5, 1)
	if !slices.Equal(keep[:4], []bool{true, false, true, true}) {
		t.Errorf("Mend changed what it was given: %v", keep[:4])
	}
	checkFresh(t, d, filled(1))
	checkWrite(t, d, 0, make([]byte, 600)[:511], api.ErrField)
}

// 5.2, 5.4 with R4: what is handed out stays as it is when the disk changes, and
// the disk when it is changed, whether the bytes are pending or last.
func TestMemoryOut(t *testing.T) {
	d := loaded(t, joined(marked(1), filled(0)))
	for range 2 {
		one, _ := d.Read(0)
		two, _ := d.Read(0)
		none, _ := d.Read(1)
		image, pending := d.Image(), d.Pending()
		before, order := d.Image(), d.Pending()
		for _, b := range [][]byte{one, none, image} {
			for i := range b {
				b[i] ^= 0xff
			}
		}
		for i := range pending {
			pending[i] = 1
		}
		_ = append(one[:3], filled(8)...)
		checkRead(t, d, 0, two)
		checkRead(t, d, 1, filled(0))
		checkImage(t, d, before)
		checkPending(t, d, order...)
		checkWrite(t, d, 0, marked(2), api.OK)
		checkWrite(t, d, 1, filled(0), api.OK)
		if !bytes.Equal(two, before[:api.PageSize]) {
			t.Error("what was read changes with the disk")
		}
	}
	b, _ := d.Read(0)
	checkSync(t, d, api.OK)
	clear(b)
	checkRead(t, d, 0, marked(2))
}

// Ways: pages of noughts are not in the map of what lasts, whatever made them so,
// and nothing is left of writes that are settled.
func TestNoughtsAreNotKept(t *testing.T) {
	d := loaded(t, joined(filled(0), marked(1), filled(0), marked(2)))
	check := func(lasting int) {
		t.Helper()
		if len(d.lasting) != lasting || len(d.pending) != 0 || cap(d.pending) != 0 || len(d.newest) != 0 {
			t.Errorf("%d pages, %d writes in the room of %d, %d places, want %d, none", len(d.lasting), len(d.pending), cap(d.pending), len(d.newest), lasting)
		}
	}
	check(2)
	checkWrite(t, d, 0, filled(0), api.OK)
	checkWrite(t, d, 1, filled(0), api.OK)
	checkSync(t, d, api.OK)
	check(1)
	checkWrite(t, d, 0, marked(1), api.OK)
	checkWrite(t, d, 3, filled(0), api.OK)
	checkWrite(t, d, 2, marked(1), api.OK)
	d.Mend([]bool{false, true}, 2, 0)
	check(0)
}

// sheet is a disk as the chapter's words have it: what a page has is found anew,
// from what lasts and all writes.
type sheet struct {
	lasting []byte
	places  []int
	bytes   [][]byte
	armed   bool
	more    int
	off     bool
}

func (s *sheet) copy() *sheet {
	c := *s
	c.lasting, c.places, c.bytes = slices.Clone(s.lasting), slices.Clone(s.places), slices.Clone(s.bytes)
	return &c
}

func (s *sheet) image() []byte {
	all := slices.Clone(s.lasting)
	for i, n := range s.places {
		copy(all[n*512:], s.bytes[i])
	}
	return all
}

// fails counts a step, and tells whether it is the one.
func (s *sheet) fails() bool {
	if s.armed && s.more == 0 {
		s.off = true
	}
	s.more--
	return s.off
}

func (s *sheet) write(n int, b []byte) api.Errno {
	switch {
	case s.off:
		return 9
	case n < 0 || n*512 >= len(s.lasting):
		return 2
	case len(b) != 512:
		return 3
	case s.fails():
		return 9
	}
	s.places, s.bytes = append(s.places, n), append(s.bytes, slices.Clone(b))
	return 0
}

func (s *sheet) sync() api.Errno {
	if s.off || s.fails() {
		return 9
	}
	s.lasting, s.places, s.bytes = s.image(), nil, nil
	return 0
}

func (s *sheet) mend(keep []bool, torn, cut int) {
	for i, n := range s.places {
		for at, c := range s.bytes[i] {
			if i == torn && at < cut || i != torn && i < len(keep) && keep[i] {
				s.lasting[n*512+at] = c
			}
		}
	}
	*s = sheet{lasting: s.lasting}
}

// checkSheet holds all that a disk tells against what the sheet has.
func checkSheet(t *testing.T, d *Disk, s *sheet, way string) {
	t.Helper()
	image := s.image()
	checkImage(t, d, image)
	checkPending(t, d, s.places...)
	checkDown(t, d, s.off)
	for n := range d.Pages() {
		if s.off {
			checkNoRead(t, d, n, api.ErrDown)
		} else {
			checkRead(t, d, n, image[n*512:(n+1)*512])
		}
	}
	if t.Failed() {
		t.Fatalf("behind %s", way)
	}
}

// act is something that is done to a disk and to the sheet alike; it tells
// whether both answer the same.
type act struct {
	name string
	do   func(d *Disk, s *sheet) bool
}

func writing(name string, n int, b []byte) act {
	return act{name, func(d *Disk, s *sheet) bool { return d.Write(n, b) == s.write(n, b) }}
}

func syncing() act {
	return act{"sync", func(d *Disk, s *sheet) bool { return d.Sync() == s.sync() }}
}

func arming(name string, n int) act {
	return act{name, func(d *Disk, s *sheet) bool {
		d.Arm(n)
		s.armed, s.more = n >= 0, n
		return true
	}}
}

func mending(name string, keep []bool, torn, cut int) act {
	return act{name, func(d *Disk, s *sheet) bool {
		d.Mend(keep, torn, cut)
		s.mend(keep, torn, cut)
		return true
	}}
}

// someActs is acts of each kind, for a disk of two pages.
func someActs() []act {
	return []act{
		writing("write 0", 0, marked(1)), writing("write 1", 1, marked(2)), writing("noughts 0", 0, filled(0)), writing("write 2", 2, marked(1)), writing("short 1", 1, make([]byte, 511)),
		syncing(), arming("arm -1", -1), arming("arm 0", 0), arming("arm 1", 1),
		mending("mend nothing", nil, -1, 0), mending("mend the second", []bool{false, true}, 0, 100), mending("mend all", []bool{true, true, true, true, true}, 2, 511),
	}
}

// 5.2 to 5.4: all short rows of acts, each going on from a clone, whose original
// stays as it was.
func TestAllShortRows(t *testing.T) {
	acts := someActs()
	var onward func(d *Disk, s *sheet, way string, left int)
	onward = func(d *Disk, s *sheet, way string, left int) {
		if left == 0 {
			return
		}
		for _, a := range acts {
			c, r := d.Clone(), s.copy()
			if here := way + ", " + a.name; !a.do(c, r) {
				t.Fatalf("another error behind %s", here)
			} else {
				checkSheet(t, c, r, here)
				onward(c, r, here, left-1)
			}
		}
		checkSheet(t, d, s, way+", on a clone")
	}
	image := joined(marked(8), filled(0))
	onward(loaded(t, image), &sheet{lasting: slices.Clone(image)}, "load", 5)
}

// anyAct is one of all acts, by numbers that are always the same.
func anyAct(r *rand.Rand, pages int) act {
	switch k := r.Intn(20); {
	case k < 12:
		b := marked(r.Intn(50))
		if r.Intn(6) == 0 {
			b = filled(0)
		}
		return writing("write", r.Intn(pages+2)-1, b[:512-r.Intn(12)/11])
	case k < 15:
		return syncing()
	case k < 17:
		return arming("arm", r.Intn(20)-3)
	}
	keep := make([]bool, r.Intn(12))
	for i := range keep {
		keep[i] = r.Intn(2) == 0
	}
	return mending("mend", keep, r.Intn(14)-2, r.Intn(700)-90)
}

// 5.1 to 5.4: long rows of acts, now and then going on from a clone, or from the
// disk that what all pages have is loaded as.
func TestLongRows(t *testing.T) {
	for seed := range 40 {
		r := rand.New(rand.NewSource(int64(seed)))
		pages := 1 + r.Intn(6)
		d, s := made(t, pages), &sheet{lasting: make([]byte, pages*512)}
		for range 300 {
			if a := anyAct(r, pages); !a.do(d, s) {
				t.Fatalf("seed %d: another error of %s", seed, a.name)
			} else {
				checkSheet(t, d, s, a.name)
			}
			switch r.Intn(30) {
			case 0:
				c := d.Clone()
				d.Mend(nil, -1, 0)
				d.Write(0, filled(99))
				d = c
			case 1:
				d, s = loaded(t, d.Image()), &sheet{lasting: s.image()}
			}
		}
	}
}

// everyKeep is all lists of truth values of up to n members.
func everyKeep(n int) [][]bool {
	l := [][]bool{nil}
	for from := 0; len(l[from]) < n; from++ {
		l = append(l, append(slices.Clone(l[from]), false), append(slices.Clone(l[from]), true))
	}
	return l
}

// 5.5: behind a Mend each byte is what lasted, or what a pending write laid
// there; pages without one are as they were.
func TestEachByte(t *testing.T) {
	lasted := joined(marked(1), marked(2), filled(0), marked(3))
	d := loaded(t, lasted)
	places, laid := []int{1, 2, 1, 0}, [][]byte{marked(10), marked(11), filled(0), marked(13)}
	for i, n := range places {
		checkWrite(t, d, n, laid[i], api.OK)
	}
	for _, keep := range everyKeep(5) {
		for torn := -1; torn <= 4; torn++ {
			for _, cut := range []int{-1, 0, 1, 255, 511, 512, 600} {
				c := d.Clone()
				c.Mend(keep, torn, cut)
				for at, b := range c.Image() {
					ok := b == lasted[at]
					for i, n := range places {
						ok = ok || n == at/512 && b == laid[i][at%512]
					}
					if !ok {
						t.Fatalf("Mend(%v, %d, %d): the byte %d is %d", keep, torn, cut, at, b)
					}
				}
				checkRead(t, c, 3, marked(3))
			}
		}
	}
}

// 5.5: what was synced is never lost but under a pending write.
func TestSyncedLasts(t *testing.T) {
	d := made(t, 4)
	for n := range 4 {
		checkWrite(t, d, n, marked(n), api.OK)
	}
	checkSync(t, d, api.OK)
	checkWrite(t, d, 2, marked(9), api.OK)
	for _, keep := range everyKeep(3) {
		for torn := -1; torn <= 2; torn++ {
			c := d.Clone()
			c.Arm(0)
			checkSync(t, c, api.ErrDown)
			c.Mend(keep, torn, 40)
			for _, n := range []int{0, 1, 3} {
				checkRead(t, c, n, marked(n))
			}
			c.Mend(keep, torn, 40)
			c.Mend(nil, -1, 0)
			checkRead(t, c, 3, marked(3))
		}
	}
}

// 5.5: with all kept, and none torn, it is as if it had been synced.
func TestAllKept(t *testing.T) {
	d := loaded(t, joined(marked(1), marked(2), marked(3)))
	for i, n := range []int{2, 0, 2, 2, 0} {
		checkWrite(t, d, n, marked(10+i), api.OK)
		synced, mended := d.Clone(), d.Clone()
		checkSync(t, synced, api.OK)
		mended.Mend(slices.Repeat([]bool{true}, i+1), -1, 0)
		checkFresh(t, mended, synced.Image())
		checkFresh(t, synced, d.Image())
	}
}

// 5.2, 5.4: as many pages as there may be, each written several times, and read
// while all these writes are pending.
func TestManyWrites(t *testing.T) {
	d := made(t, api.MaxPages)
	var want [][]byte
	for round := range 5 {
		want = want[:0]
		for n := range api.MaxPages {
			want = append(want, marked(round*7+n))
			checkWrite(t, d, n, want[n], api.OK)
			checkRead(t, d, n, want[n])
		}
	}
	if l := d.Pending(); len(l) != 5*api.MaxPages || l[len(l)-1] != api.MaxPages-1 || l[api.MaxPages] != 0 {
		t.Errorf("Pending: %d writes", len(l))
	}
	checkImage(t, d, joined(want...))
	c := d.Clone()
	c.Mend(slices.Repeat([]bool{true}, 5*api.MaxPages), 5*api.MaxPages-1, 3)
	last := tornAt(want[api.MaxPages-1], marked(3*7+api.MaxPages-1), 3)
	checkRead(t, c, api.MaxPages-1, last)
	checkRead(t, c, 0, want[0])
	checkSync(t, d, api.OK)
	checkImage(t, d, joined(want...))
}
