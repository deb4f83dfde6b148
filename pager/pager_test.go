package pager

import (
	"bytes"
	"encoding/binary"
	"hash/crc32"
	"math"
	"math/rand"
	"slices"
	"testing"

	"quarry/api"
	"quarry/disk"
)

const greatest = uint64(1) << 62

// load is a page's load that differs from others of its kind, and from noughts,
// at each byte.
func load(k int) []byte {
	b := make([]byte, 508)
	for i := range b {
		b[i] = byte(1 + (k*50+i)%255)
	}
	return b
}

// page is a load with the library's sum behind it.
func page(load []byte) []byte {
	return binary.LittleEndian.AppendUint32(slices.Clone(load), crc32.ChecksumIEEE(load))
}

func record(generation uint64, root uint32) []byte {
	r := binary.LittleEndian.AppendUint64([]byte("QRY1"), generation)
	return binary.LittleEndian.AppendUint32(r, root)
}

// pageOf is a right page that begins with one record, and ends with another.
func pageOf(front, back []byte) []byte {
	return page(joined(front, make([]byte, 508-32), back))
}

// headPage is a head's page, as the chapter says.
func headPage(generation uint64, root uint32) []byte {
	return pageOf(record(generation, root), record(generation, root))
}

func joined(l ...[]byte) []byte { return bytes.Join(l, nil) }

func noughts(pages int) []byte { return make([]byte, pages*512) }

func made(t *testing.T, pages int) *disk.Disk {
	t.Helper()
	d, e := disk.New(pages)
	if e != api.OK {
		t.Fatalf("a disk of %d pages: error %d", pages, e)
	}
	return d
}

// loaded is a disk of these pages.
func loaded(t *testing.T, pages ...[]byte) *disk.Disk {
	t.Helper()
	d, e := disk.Load(joined(pages...))
	if e != api.OK {
		t.Fatalf("a disk of %d parts: error %d", len(pages), e)
	}
	return d
}

// formatted is a disk of so many pages with the first two heads.
func formatted(t *testing.T, pages int) *disk.Disk {
	t.Helper()
	return loaded(t, headPage(0, 0), headPage(1, 0), noughts(pages-2))
}

func opened(t *testing.T, d *disk.Disk) *Pager {
	t.Helper()
	p, e := Open(d)
	if e != api.OK || p == nil {
		t.Fatalf("Open: error %d", e)
	}
	return p
}

func fresh(t *testing.T, pages int) (*Pager, *disk.Disk) {
	t.Helper()
	d := formatted(t, pages)
	return opened(t, d), d
}

func checkNoOpen(t *testing.T, d *disk.Disk, want api.Errno) {
	t.Helper()
	if p, e := Open(d); p != nil || e != want {
		t.Errorf("Open: a pager %t, error %d, want none, %d", p != nil, e, want)
	}
}

func checkRoot(t *testing.T, p *Pager, root int, generation int64) {
	t.Helper()
	if r, g := p.Root(); r != root || g != generation {
		t.Errorf("Root: %d, %d, want %d, %d", r, g, root, generation)
	}
}

func checkRead(t *testing.T, p *Pager, n int, want []byte) {
	t.Helper()
	if b, e := p.Read(n); !bytes.Equal(b, want) || e != api.OK {
		t.Errorf("Read(%d): %v, error %d, want %v", n, b, e, want)
	}
}

func checkNoRead(t *testing.T, p *Pager, n int, want api.Errno) {
	t.Helper()
	if b, e := p.Read(n); len(b) != 0 || e != want {
		t.Errorf("Read(%d): %d bytes, error %d, want none, %d", n, len(b), e, want)
	}
}

func checkWrite(t *testing.T, p *Pager, n int, b []byte, want api.Errno) {
	t.Helper()
	if e := p.Write(n, b); e != want {
		t.Errorf("Write(%d) of %d bytes: error %d, want %d", n, len(b), e, want)
	}
}

func checkCommit(t *testing.T, p *Pager, root int, want api.Errno) {
	t.Helper()
	if e := p.Commit(root); e != want {
		t.Errorf("Commit(%d): error %d, want %d", root, e, want)
	}
}

// checkDisk: what the pages have, and the pages of the pending writes.
func checkDisk(t *testing.T, d *disk.Disk, image []byte, pending ...int) {
	t.Helper()
	if !bytes.Equal(d.Image(), image) {
		t.Error("the disk's pages have other bytes than are wanted")
	}
	if l := d.Pending(); !slices.Equal(l, pending) {
		t.Errorf("pending %v, want %v", l, pending)
	}
}

// checkLasting: what lasts, if all pending writes are lost.
func checkLasting(t *testing.T, d *disk.Disk, image []byte) {
	t.Helper()
	c := d.Clone()
	c.Mend(nil, -1, 0)
	checkDisk(t, c, image)
}

// fail lets the power of d fail.
func fail(t *testing.T, d *disk.Disk) {
	t.Helper()
	d.Arm(0)
	if e := d.Sync(); e != api.ErrDown || !d.Down() {
		t.Fatalf("the power does not fail: error %d", e)
	}
}

// 6.1: sums by hand.
func TestSum(t *testing.T) {
	for _, c := range []struct {
		of   string
		want uint32
	}{
		{"", 0},
		{"\x00", 0xD202EF8D},
		{"\xff", 0xFF000000},
		{"a", 0xE8B7BE43},
		{"abc", 0x352441C2},
		{"123456789", 0xCBF43926},
		{"\x00\x00\x00\x00", 0x2144DF1C},
		{"\xff\xff\xff\xff", 0xFFFFFFFF},
		{"The quick brown fox jumps over the lazy dog", 0x414FA339},
	} {
		if s := Sum([]byte(c.of)); s != c.want {
			t.Errorf("Sum of %q: %08X, want %08X", c.of, s, c.want)
		}
	}
	if s := Sum(nil); s != 0 {
		t.Errorf("Sum of nothing: %08X, want 0", s)
	}
}

// 6.1: sums of all rows of one and of two bytes, and of long ones, against the
// library's.
func TestSumAll(t *testing.T) {
	check := func(b []byte) {
		t.Helper()
		if s, want := Sum(b), crc32.ChecksumIEEE(b); s != want {
			t.Fatalf("Sum of %d bytes %v: %08X, want %08X", len(b), b[:min(len(b), 9)], s, want)
		}
	}
	for c := range 256 {
		check([]byte{byte(c)})
		for d := range 256 {
			check([]byte{byte(c), byte(d)})
		}
	}
	r := rand.New(rand.NewSource(6))
	for n := range 600 {
		b := make([]byte, n)
		check(b)
		r.Read(b)
		check(b)
	}
	b := make([]byte, 1<<20+3)
	r.Read(b)
	check(b)
}

// 6.1: Format lays two heads and syncs; what lies in other pages stays.
func TestFormat(t *testing.T) {
	for _, n := range []int{3, 4, 5, 100, api.MaxPages} {
		d := made(t, n)
		if e := Format(d); e != api.OK {
			t.Errorf("Format of %d pages: error %d", n, e)
		}
		checkDisk(t, d, joined(headPage(0, 0), headPage(1, 0), noughts(n-2)))
		checkLasting(t, d, joined(headPage(0, 0), headPage(1, 0), noughts(n-2)))
	}
	old := joined(headPage(8, 2), headPage(9, 3), page(load(1)), page(load(2)))
	d := loaded(t, old)
	if e := d.Write(3, page(load(3))); e != api.OK {
		t.Fatal(e)
	}
	if e := Format(d); e != api.OK {
		t.Errorf("Format of a disk with heads: error %d", e)
	}
	want := joined(headPage(0, 0), headPage(1, 0), page(load(1)), page(load(3)))
	checkDisk(t, d, want)
	checkLasting(t, d, want)
	checkRoot(t, opened(t, d), 0, 1)
}

// 6.1, 6.2: disks with fewer than three pages, with power and without.
func TestFewPages(t *testing.T) {
	for n := 1; n <= 2; n++ {
		image := joined(headPage(0, 0), headPage(1, 0))[:n*512]
		for _, down := range []bool{false, true} {
			d := loaded(t, image)
			if down {
				fail(t, d)
			}
			if e := Format(d); e != api.ErrRange {
				t.Errorf("Format of %d pages: error %d, want %d", n, e, api.ErrRange)
			}
			checkNoOpen(t, d, api.ErrRange)
			checkDisk(t, d, image)
		}
	}
}

// 6.1: the power has failed, or fails at each of Format's steps.
func TestFormatDown(t *testing.T) {
	old := joined(headPage(8, 2), headPage(9, 2), page(load(1)))
	zero, one := headPage(0, 0), headPage(1, 0)
	d := loaded(t, old)
	fail(t, d)
	if e := Format(d); e != api.ErrDown {
		t.Errorf("Format without power: error %d, want %d", e, api.ErrDown)
	}
	checkDisk(t, d, old)
	for n, c := range []struct {
		image   []byte
		pending []int
		want    api.Errno
	}{
		{old, nil, api.ErrDown},
		{joined(zero, old[512:]), []int{0}, api.ErrDown},
		{joined(zero, one, old[1024:]), []int{0, 1}, api.ErrDown},
		{joined(zero, one, old[1024:]), nil, api.OK},
	} {
		d := loaded(t, old)
		d.Arm(n)
		if e := Format(d); e != c.want {
			t.Errorf("Format, the power failing behind %d steps: error %d, want %d", n, e, c.want)
		}
		if d.Down() != (c.want != api.OK) {
			t.Errorf("Format, the power failing behind %d steps: down %t", n, d.Down())
		}
		checkDisk(t, d, c.image, c.pending...)
	}
}

// 6.2: disks without heads.
func TestOpenNoHead(t *testing.T) {
	for _, n := range []int{3, 4, api.MaxPages} {
		checkNoOpen(t, made(t, n), api.ErrCorrupt)
	}
	for _, p := range [][]byte{page(noughts(1)[:508]), page(load(1)), load(1)[:508:508], bytes.Repeat([]byte{255}, 512)} {
		p = append(p, 0, 0, 0, 0)[:512]
		checkNoOpen(t, loaded(t, p, p, p), api.ErrCorrupt)
		// heads that lie elsewhere are none
		checkNoOpen(t, loaded(t, p, p, headPage(0, 0), headPage(1, 0)), api.ErrCorrupt)
	}
}

// 6.2: Open neither writes nor syncs; it reads what is pending, too.
func TestOpenReadsPending(t *testing.T) {
	d := formatted(t, 3)
	if e := d.Write(0, headPage(4, 2)); e != api.OK {
		t.Fatal(e)
	}
	checkRoot(t, opened(t, d), 2, 4)
	checkDisk(t, d, joined(headPage(4, 2), headPage(1, 0), noughts(1)), 0)
	checkLasting(t, d, joined(headPage(0, 0), headPage(1, 0), noughts(1)))
	d.Arm(0)
	checkRoot(t, opened(t, d), 2, 4)
	if d.Down() {
		t.Error("Open was a step")
	}
}

// 6.2: the power has failed; that is told ahead of damage.
func TestOpenDown(t *testing.T) {
	for _, d := range []*disk.Disk{formatted(t, 3), made(t, 3), made(t, api.MaxPages)} {
		fail(t, d)
		checkNoOpen(t, d, api.ErrDown)
		d.Mend(nil, -1, 0)
	}
}

// 6.2: a head of each generation and root, in its page and in the other one, on
// disks of three and more pages, beside a damaged one.
func TestOneHead(t *testing.T) {
	generations := []uint64{0, 1, 2, 3, 255, 256, 65535, 1<<31 - 1, 1 << 31, 1 << 32, 1<<32 + 1, 1<<40 + 1, greatest - 1, greatest,
		greatest + 1, greatest + 2, 1<<63 - 1, 1 << 63, 1<<63 + 1, 1<<63 + greatest, math.MaxUint64 - 1, math.MaxUint64}
	roots := []uint32{0, 1, 2, 3, 4, 5, 6, 98, 99, 100, 255, 256, 4095, 4096, 1 << 16, 1 << 24, 1<<24 + 2, 1<<31 - 1, 1 << 31, 1<<31 + 2, math.MaxUint32}
	for _, pages := range []int{3, 4, 6, 100, api.MaxPages} {
		for _, generation := range generations {
			for _, root := range roots {
				for at := range 2 {
					parts := [][]byte{noughts(1), noughts(1), noughts(pages - 2)}
					parts[at] = headPage(generation, root)
					d := loaded(t, parts...)
					if generation <= greatest && generation%2 == uint64(at) && root != 1 && root < uint32(pages) {
						p := opened(t, d)
						checkRoot(t, p, int(root), int64(generation))
						if p.Pages() != pages {
							t.Errorf("Pages: %d, want %d", p.Pages(), pages)
						}
					} else {
						checkNoOpen(t, d, api.ErrCorrupt)
					}
					if t.Failed() {
						t.Fatalf("generation %d, root %d in the page %d of %d", generation, root, at, pages)
					}
				}
			}
		}
	}
}

// 6.2: of two heads the one of the greater generation is the newest, wherever
// it lies and however far ahead it is.
func TestTwoHeads(t *testing.T) {
	generations := []uint64{0, 1, 2, 3, 254, 255, 256, 257, 511, 512, 1<<32 - 1, 1 << 32, 1<<32 + 1, greatest - 2, greatest - 1, greatest}
	for _, even := range generations {
		for _, odd := range generations {
			if even%2 != 0 || odd%2 != 1 {
				continue
			}
			p := opened(t, loaded(t, headPage(even, 2), headPage(odd, 3), noughts(2)))
			if even > odd {
				checkRoot(t, p, 2, int64(even))
			} else {
				checkRoot(t, p, 3, int64(odd))
			}
		}
	}
	checkRoot(t, opened(t, loaded(t, headPage(greatest+2, 2), headPage(7, 3), noughts(2))), 3, 7)
	checkRoot(t, opened(t, loaded(t, headPage(6, 2), headPage(greatest+1, 3), noughts(2))), 2, 6)
	checkRoot(t, opened(t, loaded(t, headPage(6, 2), headPage(7, 4), noughts(2))), 2, 6)
	checkRoot(t, opened(t, loaded(t, headPage(6, 1), headPage(5, 0), noughts(2))), 0, 5)
	checkNoOpen(t, loaded(t, headPage(7, 2), headPage(6, 2), noughts(2)), api.ErrCorrupt)
	checkNoOpen(t, loaded(t, headPage(6, 1), headPage(7, 4), noughts(2)), api.ErrCorrupt)
}

// 6.2: each byte of one head is turned, or of both.
func TestDamagedHeads(t *testing.T) {
	heads := [][]byte{headPage(6, 2), headPage(7, 0)}
	damaged := func(p []byte, at int, by byte) []byte {
		c := slices.Clone(p)
		c[at] ^= by
		return c
	}
	for at := range 512 {
		for _, by := range []byte{1, 2, 4, 8, 16, 32, 64, 128, 255} {
			even, odd := damaged(heads[0], at, by), damaged(heads[1], at, by)
			checkRoot(t, opened(t, loaded(t, even, heads[1], noughts(1))), 0, 7)
			checkRoot(t, opened(t, loaded(t, heads[0], odd, noughts(1))), 2, 6)
			checkNoOpen(t, loaded(t, even, odd, noughts(1)), api.ErrCorrupt)
		}
	}
}

// 6.2: pages that are right, but whose load is that of no head: bytes turned
// ahead of taking the sum, and another record in front than at the end.
func TestRightPagesThatAreNoHeads(t *testing.T) {
	for at := range 508 {
		for _, by := range []byte{1, 2, 4, 255} {
			b := headPage(6, 2)[:508]
			b[at] ^= by
			checkNoOpen(t, loaded(t, page(b), noughts(6)), api.ErrCorrupt)
		}
	}
	records := [][]byte{record(6, 2), record(6, 0), record(6, 3), record(8, 2), record(6+1<<32, 2), record(6, 1), record(7, 2), make([]byte, 16)}
	for i, front := range records {
		for j, back := range records {
			d := loaded(t, pageOf(front, back), noughts(6))
			if i == j && i < 5 {
				opened(t, d)
			} else {
				checkNoOpen(t, d, api.ErrCorrupt)
			}
		}
	}
	mark := slices.Clone(record(6, 2))
	for _, name := range []string{"QRY0", "QRY2", "qry1", "QRYI", "1YRQ", "\x00\x00\x00\x00"} {
		copy(mark, name)
		checkNoOpen(t, loaded(t, pageOf(mark, mark), noughts(6)), api.ErrCorrupt)
	}
}

// 6.3: pages that Read and Write do not reach, ahead of every other error.
func TestNoPage(t *testing.T) {
	for _, pages := range []int{3, 5, api.MaxPages} {
		p, d := fresh(t, pages)
		before := d.Image()
		for _, down := range []bool{false, true} {
			if down {
				fail(t, d)
			}
			for _, n := range []int{-1, -2, -pages, 0, 1, pages, pages + 1, 1 << 12, 1 << 32, 1<<32 + 2, math.MaxInt, math.MinInt} {
				checkNoRead(t, p, n, api.ErrRange)
				for _, b := range [][]byte{nil, load(1), make([]byte, 507), make([]byte, 509), make([]byte, 512)} {
					checkWrite(t, p, n, b, api.ErrRange)
				}
			}
			checkDisk(t, d, before)
			if p.Pages() != pages {
				t.Errorf("Pages: %d, want %d", p.Pages(), pages)
			}
		}
	}
}

// 6.3: what is written is read, from the first page of all to the last, and lies
// on the disk with its sum.
func TestWriteRead(t *testing.T) {
	for _, pages := range []int{3, 5, api.MaxPages} {
		p, d := fresh(t, pages)
		for _, n := range []int{2, pages / 2, pages - 1} {
			if n < 2 {
				continue
			}
			for _, b := range [][]byte{load(n), make([]byte, 508), bytes.Repeat([]byte{255}, 508), load(n + 1)} {
				checkWrite(t, p, n, b, api.OK)
				checkRead(t, p, n, b)
				if got, e := d.Read(n); !bytes.Equal(got, page(b)) || e != api.OK {
					t.Errorf("the page %d has %v, error %d", n, got, e)
				}
				checkRoot(t, p, 0, 1)
			}
		}
	}
}

// 6.3: bytes of other lengths, ahead of what the disk answers.
func TestWriteLength(t *testing.T) {
	p, d := fresh(t, 3)
	checkWrite(t, p, 2, load(1), api.OK)
	before := d.Image()
	for _, down := range []bool{false, true} {
		if down {
			fail(t, d)
		}
		for _, n := range []int{0, 1, 2, 506, 507, 509, 511, 512, 513, 1016, 1 << 20} {
			checkWrite(t, p, 2, make([]byte, n), api.ErrField)
		}
		checkWrite(t, p, 2, nil, api.ErrField)
		checkDisk(t, d, before, 2)
	}
}

// 6.3: the power has failed, or fails at the write.
func TestReadWriteDown(t *testing.T) {
	p, d := fresh(t, 4)
	checkWrite(t, p, 2, load(1), api.OK)
	d.Arm(0)
	checkRead(t, p, 2, load(1))
	checkWrite(t, p, 2, make([]byte, 507), api.ErrField)
	checkWrite(t, p, 3, load(2), api.ErrDown)
	checkDisk(t, d, joined(headPage(0, 0), headPage(1, 0), page(load(1)), noughts(1)), 2)
	checkNoRead(t, p, 2, api.ErrDown)
	checkNoRead(t, p, 3, api.ErrDown)
	checkWrite(t, p, 2, load(2), api.ErrDown)
	checkRoot(t, p, 0, 1)
	d.Mend([]bool{true}, -1, 0)
	checkRead(t, p, 2, load(1))
	checkWrite(t, p, 3, load(2), api.OK)
	checkRead(t, p, 3, load(2))
}

// 6.3: pages that are not right: of noughts, with any bit turned, with another
// page's sum, or the sum the other way about.
func TestPageNotRight(t *testing.T) {
	p, d := fresh(t, 4)
	lay := func(b []byte) {
		t.Helper()
		if e := d.Write(3, b); e != api.OK {
			t.Fatal(e)
		}
	}
	checkNoRead(t, p, 3, api.ErrCorrupt)
	lay(page(load(1)))
	checkRead(t, p, 3, load(1))
	for at := range 512 {
		for bit := range 8 {
			b := page(load(1))
			b[at] ^= 1 << bit
			lay(b)
			checkNoRead(t, p, 3, api.ErrCorrupt)
		}
	}
	lay(joined(load(1), page(load(2))[508:]))
	checkNoRead(t, p, 3, api.ErrCorrupt)
	lay(binary.BigEndian.AppendUint32(load(1), crc32.ChecksumIEEE(load(1))))
	checkNoRead(t, p, 3, api.ErrCorrupt)
	lay(headPage(9, 7))
	checkRead(t, p, 3, headPage(9, 7)[:508])
	lay(page(make([]byte, 508)))
	checkRead(t, p, 3, make([]byte, 508))
	checkNoRead(t, p, 2, api.ErrCorrupt)
}

// 6.4: roots that are none; nothing is done then, and a Commit may follow.
func TestCommitNoRoot(t *testing.T) {
	for _, pages := range []int{3, 5, api.MaxPages} {
		p, d := fresh(t, pages)
		checkWrite(t, p, 2, load(1), api.OK)
		before := d.Image()
		d.Arm(0)
		for _, root := range []int{1, pages, pages + 1, -1, -2, -pages, 1 << 12, 1 << 32, 1<<32 + 2, math.MaxInt, math.MinInt} {
			checkCommit(t, p, root, api.ErrRange)
		}
		checkDisk(t, d, before, 2)
		checkRoot(t, p, 0, 1)
		d.Arm(-1)
		checkCommit(t, p, 2, api.OK)
		checkRoot(t, p, 2, 2)
	}
}

// 6.4: commits one behind the other: each head lies in its page and lasts, with
// all that was written ahead.
func TestCommit(t *testing.T) {
	for _, pages := range []int{3, 5, api.MaxPages} {
		p, d := fresh(t, pages)
		parts := [][]byte{headPage(0, 0), headPage(1, 0), noughts(pages - 2)}
		for i, root := range []int{2, 0, pages - 1, pages - 1, 2, 0, 0} {
			generation := i + 2
			checkWrite(t, p, 2, load(i), api.OK)
			checkWrite(t, p, pages-1, load(i+10), api.OK)
			checkRoot(t, opened(t, d), int(binary.LittleEndian.Uint32(parts[(i+1)%2][12:])), int64(i+1))
			checkCommit(t, p, root, api.OK)
			checkRoot(t, p, root, int64(generation))
			parts[generation%2] = headPage(uint64(generation), uint32(root))
			copy(parts[2], page(load(i)))
			copy(parts[2][(pages-3)*512:], page(load(i+10)))
			checkDisk(t, d, joined(parts...))
			checkLasting(t, d, joined(parts...))
			checkRoot(t, opened(t, d), root, int64(generation))
			checkRead(t, p, pages-1, load(i+10))
		}
	}
}

// 6.4: a commit goes on from the newest head, whatever generation that is, and
// the other page need not be a head.
func TestCommitFromAnyHead(t *testing.T) {
	for _, generation := range []uint64{0, 1, 2, 3, 254, 255, 256, 65535, 1<<32 - 2, 1<<32 - 1, 1 << 32, greatest - 2, greatest - 1} {
		for _, other := range [][]byte{noughts(1), page(load(1)), headPage(generation^1, 9)} {
			parts := [][]byte{other, other, page(load(2))}
			parts[generation%2] = headPage(generation, 2)
			d := loaded(t, parts...)
			p := opened(t, d)
			checkCommit(t, p, 0, api.OK)
			checkRoot(t, p, 0, int64(generation+1))
			parts[(generation+1)%2] = headPage(generation+1, 0)
			checkDisk(t, d, joined(parts...))
			checkRoot(t, opened(t, d), 0, int64(generation+1))
		}
	}
}

// 6.4: behind the greatest generation a commit does its steps like any other,
// but its head is not read.
func TestCommitBehindTheGreatest(t *testing.T) {
	d := loaded(t, headPage(greatest, 2), headPage(7, 0), page(load(1)))
	p := opened(t, d)
	checkCommit(t, p, 0, api.OK)
	checkRoot(t, p, 0, int64(greatest+1))
	checkDisk(t, d, joined(headPage(greatest, 2), headPage(greatest+1, 0), page(load(1))))
	checkRoot(t, opened(t, d), 2, int64(greatest))
}

// 6.4: the power fails at each step of a commit: what is pending then, what
// lasts, and what is told behind it, also when the power is back.
func TestCommitDown(t *testing.T) {
	old := joined(headPage(4, 3), headPage(3, 2), page(load(1)), noughts(1))
	written := joined(headPage(4, 3), headPage(3, 2), page(load(1)), page(load(2)))
	laid := joined(headPage(4, 3), headPage(5, 2), page(load(1)), page(load(2)))
	for n, c := range []struct {
		image, lasting []byte
		pending        []int
		want           api.Errno
	}{
		{written, old, []int{3}, api.ErrDown},
		{written, written, nil, api.ErrDown},
		{laid, written, []int{1}, api.ErrDown},
		{laid, laid, nil, api.OK},
	} {
		d := loaded(t, old)
		p := opened(t, d)
		checkWrite(t, p, 3, load(2), api.OK)
		d.Arm(n)
		checkCommit(t, p, 2, c.want)
		checkDisk(t, d, c.image, c.pending...)
		checkLasting(t, d, c.lasting)
		if c.want == api.OK {
			checkRoot(t, p, 2, 5)
			continue
		}
		checkFailed(t, p, d, 3, 4)
		d.Mend([]bool{true}, -1, 0)
		checkDisk(t, d, c.image)
		checkFailed(t, p, d, 3, 4)
		// reading and writing go on
		checkRead(t, p, 2, load(1))
		checkWrite(t, p, 2, load(3), api.OK)
		checkRead(t, p, 2, load(3))
		checkCommit(t, opened(t, d), 2, api.OK)
		checkFailed(t, p, d, 3, 4)
	}
}

// checkFailed: a pager of four pages, of which a Commit has answered ErrDown: it
// does nothing more, whatever the root, and its clone's pager neither.
func checkFailed(t *testing.T, p *Pager, d *disk.Disk, root int, generation int64) {
	t.Helper()
	image, pending := d.Image(), d.Pending()
	for _, r := range []int{0, 2, 3, 1, 4, -1} {
		checkCommit(t, p, r, api.ErrDown)
	}
	checkDisk(t, d, image, pending...)
	checkRoot(t, p, root, generation)
	c := d.Clone()
	m := p.Move(c)
	checkCommit(t, m, 2, api.ErrDown)
	checkRoot(t, m, root, generation)
	checkDisk(t, c, image, pending...)
}

// 6.4: the power has failed ahead of a commit; a root that is none is told first.
func TestCommitWithoutPower(t *testing.T) {
	p, d := fresh(t, 4)
	checkWrite(t, p, 2, load(1), api.OK)
	fail(t, d)
	checkCommit(t, p, 1, api.ErrRange)
	checkCommit(t, p, 4, api.ErrRange)
	d.Mend([]bool{true}, -1, 0)
	checkCommit(t, p, 2, api.OK) // none has answered ErrDown so far
	checkRoot(t, p, 2, 2)
	fail(t, d)
	checkCommit(t, p, 0, api.ErrDown)
	checkFailed(t, p, d, 2, 2)
	d.Mend(nil, -1, 0)
	checkFailed(t, p, d, 2, 2)
	checkRoot(t, opened(t, d), 2, 2)
}

// 6.4: a pager that was moved is the same, and goes its own way; so does the one
// that it was moved from.
func TestMove(t *testing.T) {
	p, d := fresh(t, 4)
	checkWrite(t, p, 2, load(1), api.OK)
	checkCommit(t, p, 2, api.OK)
	checkWrite(t, p, 3, load(2), api.OK)
	c := d.Clone()
	m := p.Move(c)
	checkRoot(t, m, 2, 2)
	checkRead(t, m, 2, load(1))
	checkRead(t, m, 3, load(2))
	if m.Pages() != 4 || m == p {
		t.Errorf("Pages: %d, the same %t", m.Pages(), m == p)
	}
	before := d.Image()
	checkWrite(t, m, 2, load(5), api.OK)
	checkCommit(t, m, 3, api.OK)
	checkRoot(t, m, 3, 3)
	checkRoot(t, p, 2, 2)
	checkDisk(t, d, before, 3)
	checkRead(t, p, 2, load(1))
	checkWrite(t, p, 2, load(6), api.OK)
	checkCommit(t, p, 0, api.OK)
	checkCommit(t, p, 2, api.OK)
	checkRoot(t, p, 2, 4)
	checkRoot(t, m, 3, 3)
	checkDisk(t, c, joined(headPage(2, 2), headPage(3, 3), page(load(5)), page(load(2))))
	checkDisk(t, d, joined(headPage(4, 2), headPage(3, 0), page(load(6)), page(load(2))))
}

// 6.4: one of two fails, and the other goes on.
func TestMoveFailsAlone(t *testing.T) {
	p, d := fresh(t, 4)
	c := d.Clone()
	m := p.Move(c)
	fail(t, c)
	checkCommit(t, m, 2, api.ErrDown)
	checkCommit(t, p, 2, api.OK)
	checkRoot(t, p, 2, 2)
	checkRoot(t, m, 0, 1)
	fail(t, d)
	checkCommit(t, p, 3, api.ErrDown)
	checkFailed(t, p, d, 2, 2)
	checkFailed(t, m, c, 0, 1)
}

// 6.3, 6.4 with R1: a disk that is no clone, with fewer pages, is no ground to panic.
func TestMoveToFewerPages(t *testing.T) {
	p, _ := fresh(t, 4)
	for n := 1; n <= 3; n++ {
		m := p.Move(made(t, n))
		m.Read(2)
		m.Write(2, load(1))
		m.Commit(0)
		m.Commit(0)
		m.Root()
		m.Pages()
	}
}

// eachMend calls see with a clone of d behind every Mend: all choices of the
// pending writes that last, and each of them torn at every place, or none.
func eachMend(d *disk.Disk, see func(*disk.Disk)) {
	pending := len(d.Pending())
	for choice := range 1 << pending {
		keep := make([]bool, pending)
		for i := range keep {
			keep[i] = choice>>i&1 == 1
		}
		for torn := -1; torn < pending; torn++ {
			if torn >= 0 && keep[torn] {
				continue // what is kept of a torn one its cut says
			}
			for cut := range 513 {
				c := d.Clone()
				c.Mend(keep, torn, cut)
				see(c)
				if torn < 0 {
					break
				}
			}
		}
	}
}

// 6.5: the power fails at each step of a commit, and behind it; each choice of
// what lasts, and a write torn at each place. The generations are such that their
// bytes differ in many ways from those that are laid over.
func TestOldRootOrNew(t *testing.T) {
	for _, generation := range []uint64{1, 2, 3, 254, 255, 256, 1<<24 - 1, greatest - 1} {
		for step := range 4 {
			parts := [][]byte{nil, nil, page(load(1)), page(load(2)), noughts(2)}
			parts[generation%2] = headPage(generation, 3)
			parts[(generation-1)%2] = headPage(generation-1, 2)
			d := loaded(t, parts...)
			p := opened(t, d)
			checkWrite(t, p, 4, load(4), api.OK)
			checkWrite(t, p, 5, load(5), api.OK)
			d.Arm(step)
			committed := p.Commit(5) == api.OK
			if !committed && step == 3 || committed && step < 3 {
				t.Errorf("Commit, the power failing behind %d steps: OK %t", step, committed)
			}
			eachMend(d, func(c *disk.Disk) {
				t.Helper()
				after := opened(t, c)
				if root, g := after.Root(); committed || g != int64(generation) {
					checkRoot(t, after, 5, int64(generation+1))
					checkRead(t, after, 4, load(4))
					checkRead(t, after, 5, load(5))
				} else if root != 3 {
					t.Errorf("Root: %d, %d, want 3, %d", root, g, generation)
				}
				checkRead(t, after, 2, load(1))
				checkRead(t, after, 3, load(2))
			})
			if t.Failed() {
				t.Fatalf("from generation %d on, the power failing behind %d steps", generation, step)
			}
		}
	}
}

// 6.5: both roots come about, when the last write is torn.
func TestBothRootsComeAbout(t *testing.T) {
	p, d := fresh(t, 3)
	checkWrite(t, p, 2, load(1), api.OK)
	d.Arm(2)
	checkCommit(t, p, 2, api.ErrDown)
	seen := map[int64]int{}
	eachMend(d, func(c *disk.Disk) {
		_, g := opened(t, c).Root()
		seen[g]++
	})
	if len(seen) != 2 || seen[1] == 0 || seen[2] == 0 {
		t.Errorf("the generations %v, want 1 and 2", seen)
	}
}

// 6.5: writes behind a commit, whatever becomes of them, leave its root and the
// pages that were not written since.
func TestWritesBehindCommit(t *testing.T) {
	p, d := fresh(t, 6)
	for n := 2; n < 6; n++ {
		checkWrite(t, p, n, load(n), api.OK)
	}
	checkCommit(t, p, 4, api.OK)
	for _, n := range []int{5, 3, 5} {
		checkWrite(t, p, n, load(n+10), api.OK)
	}
	eachMend(d, func(c *disk.Disk) {
		after := opened(t, c)
		checkRoot(t, after, 4, 2)
		checkRead(t, after, 2, load(2))
		checkRead(t, after, 4, load(4))
	})
}

// 6.1, 6.3 with R4: what is handed in is neither changed nor kept, what lies
// behind its end neither changed nor looked at.
func TestMemoryIn(t *testing.T) {
	room := append(load(1), 7, 7, 7, 7, 7)
	b := room[:508]
	if Sum(b) != crc32.ChecksumIEEE(load(1)) {
		t.Error("Sum looks behind the end")
	}
	p, d := fresh(t, 3)
	checkWrite(t, p, 2, b, api.OK)
	if !bytes.Equal(room, append(load(1), 7, 7, 7, 7, 7)) {
		t.Error("Sum or Write changed what it was given")
	}
	clear(room)
	checkRead(t, p, 2, load(1))
	checkCommit(t, p, 2, api.OK)
	room[3] = 9
	checkRead(t, p, 2, load(1))
	checkDisk(t, d, joined(headPage(2, 2), headPage(1, 0), page(load(1))))
	checkWrite(t, p, 2, make([]byte, 600)[:507], api.ErrField)
}

// 6.3 with R4: what is handed out stays as it is when the pager's disk changes,
// and the disk when it is changed.
func TestMemoryOut(t *testing.T) {
	p, d := fresh(t, 3)
	checkWrite(t, p, 2, load(1), api.OK)
	for range 2 {
		one, _ := p.Read(2)
		two, _ := p.Read(2)
		for i := range one {
			one[i] ^= 255
		}
		_ = append(one, 1, 2, 3, 4)
		if cap(one) != 508 {
			t.Errorf("behind a load lie %d bytes more", cap(one)-508)
		}
		if !bytes.Equal(two, load(1)) {
			t.Error("two answers share memory")
		}
		checkRead(t, p, 2, load(1))
		checkWrite(t, p, 2, load(2), api.OK)
		if !bytes.Equal(two, load(1)) {
			t.Error("what was read changes with the disk")
		}
		checkWrite(t, p, 2, load(1), api.OK)
		checkCommit(t, p, 2, api.OK)
	}
	if e := d.Sync(); e != api.OK {
		t.Error(e)
	}
}
