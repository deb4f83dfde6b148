package pager

import (
	"bytes"
	"encoding/binary"
	"hash/crc32"
	"math/rand"
	"slices"
	"testing"

	"quarry/api"
	"quarry/disk"
)

// plain is a pager as the chapter's words have it, over a disk of its own.
type plain struct {
	disk       *disk.Disk
	root       int
	generation int64
	failed     bool
}

// isHead goes by the chapter's words one by one.
func isHead(p []byte, n, pages int) (root int, generation int64, ok bool) {
	front, back := p[:16], p[492:508]
	g, r := binary.LittleEndian.Uint64(front[4:]), binary.LittleEndian.Uint32(front[12:])
	ok = binary.LittleEndian.Uint32(p[508:]) == crc32.ChecksumIEEE(p[:508]) &&
		string(front[:4]) == "QRY1" && bytes.Equal(front, back) &&
		bytes.Count(p[16:492], []byte{0}) == 476 &&
		g <= 1<<62 && g%2 == uint64(n) && (r == 0 || r >= 2 && r < uint32(pages))
	return int(r), int64(g), ok
}

func openPlain(d *disk.Disk) (*plain, api.Errno) {
	if d.Pages() < 3 {
		return nil, api.ErrRange
	}
	if d.Down() {
		return nil, api.ErrDown
	}
	zero, _ := d.Read(0)
	one, _ := d.Read(1)
	r0, g0, ok0 := isHead(zero, 0, d.Pages())
	r1, g1, ok1 := isHead(one, 1, d.Pages())
	switch {
	case ok0 && (!ok1 || g0 > g1):
		return &plain{disk: d, root: r0, generation: g0}, api.OK
	case ok1:
		return &plain{disk: d, root: r1, generation: g1}, api.OK
	}
	return nil, api.ErrCorrupt
}

func (p *plain) read(n int) ([]byte, api.Errno) {
	if n < 2 || n >= p.disk.Pages() {
		return nil, api.ErrRange
	}
	b, e := p.disk.Read(n)
	if e != api.OK {
		return nil, e
	}
	if binary.LittleEndian.Uint32(b[508:]) != crc32.ChecksumIEEE(b[:508]) {
		return nil, api.ErrCorrupt
	}
	return b[:508], api.OK
}

func (p *plain) write(n int, b []byte) api.Errno {
	if n < 2 || n >= p.disk.Pages() {
		return api.ErrRange
	}
	if len(b) != 508 {
		return api.ErrField
	}
	return p.disk.Write(n, page(b))
}

func (p *plain) commit(root int) api.Errno {
	switch {
	case p.failed:
		return api.ErrDown
	case root != 0 && (root < 2 || root >= p.disk.Pages()):
		return api.ErrRange
	}
	p.failed = true
	if e := p.disk.Sync(); e != api.OK {
		return e
	}
	if e := p.disk.Write(int((p.generation+1)%2), headPage(uint64(p.generation+1), uint32(root))); e != api.OK {
		return e
	}
	if e := p.disk.Sync(); e != api.OK {
		return e
	}
	p.failed = false
	p.root, p.generation = root, p.generation+1
	return api.OK
}

// pair is a pager and its plain one, which do the same.
type pair struct {
	p *Pager
	d *disk.Disk
	m *plain
}

func openPair(t *testing.T, d, e *disk.Disk) *pair {
	t.Helper()
	p, err := Open(d)
	m, want := openPlain(e)
	if err != want || (p == nil) != (m == nil) || (p != nil) != (err == api.OK) {
		t.Fatalf("Open: a pager %t, error %d, want error %d", p != nil, err, want)
	}
	if p == nil {
		return nil
	}
	return &pair{p, d, m}
}

func (w *pair) check(t *testing.T) {
	t.Helper()
	checkRoot(t, w.p, w.m.root, w.m.generation)
	checkDisk(t, w.d, w.m.disk.Image(), w.m.disk.Pending()...)
	if w.d.Down() != w.m.disk.Down() {
		t.Errorf("down %t, want %t", w.d.Down(), w.m.disk.Down())
	}
	for n := -1; n <= w.d.Pages(); n++ {
		b, e := w.p.Read(n)
		c, want := w.m.read(n)
		if !bytes.Equal(b, c) || e != want {
			t.Errorf("Read(%d): %d bytes, error %d, want %d, %d", n, len(b), e, len(c), want)
		}
	}
}

// act does the same to both by chance, and may answer another pair in its place.
func (w *pair) act(t *testing.T, r *rand.Rand) *pair {
	t.Helper()
	switch r.Intn(12) {
	case 0:
		n := r.Intn(7) - 1
		w.d.Arm(n)
		w.m.disk.Arm(n)
	case 1:
		keep := make([]bool, r.Intn(4))
		for i := range keep {
			keep[i] = r.Intn(2) == 1
		}
		torn, cut := r.Intn(4)-1, r.Intn(514)
		w.d.Mend(keep, torn, cut)
		w.m.disk.Mend(keep, torn, cut)
	case 2:
		if o := openPair(t, w.d, w.m.disk); o != nil {
			return o
		}
	case 3:
		w.m.disk = w.m.disk.Clone()
		w.d = w.d.Clone()
		w.p = w.p.Move(w.d)
	case 4, 5, 6:
		root := r.Intn(w.d.Pages()+3) - 1
		if e, want := w.p.Commit(root), w.m.commit(root); e != want {
			t.Errorf("Commit(%d): error %d, want %d", root, e, want)
		}
	case 7:
		// somebody else lays what may be a page, or a head
		n := r.Intn(w.d.Pages())
		g := uint64(w.m.generation) + uint64(r.Intn(5)) - 2
		b := [][]byte{noughts(1), page(load(r.Intn(9))), headPage(g, uint32(r.Intn(6))), pageOf(record(g, 2), record(g+2, 2))}[r.Intn(4)]
		if e, want := w.d.Write(n, b), w.m.disk.Write(n, b); e != want {
			t.Errorf("the disk's Write(%d): error %d, want %d", n, e, want)
		}
	default:
		n, b := r.Intn(w.d.Pages()+2)-1, load(r.Intn(5))[:508-r.Intn(9)/8]
		if e, want := w.p.Write(n, b), w.m.write(n, b); e != want {
			t.Errorf("Write(%d) of %d bytes: error %d, want %d", n, len(b), e, want)
		}
	}
	return w
}

// 6.2 to 6.4: long rows of acts, against the plain pager.
func TestLongRows(t *testing.T) {
	for seed := range int64(150) {
		r := rand.New(rand.NewSource(seed))
		pages := 3 + r.Intn(4)
		w := openPair(t, formatted(t, pages), formatted(t, pages))
		for i := range 60 {
			w = w.act(t, r)
			w.check(t)
			if t.Failed() {
				t.Fatalf("seed %d, act %d", seed, i)
			}
		}
	}
}

// 6.5: long rows of writes, commits and failings of the power: what is opened
// then is what the last commit that answered OK has left, or the one cut off.
func TestLongRowsOfFailings(t *testing.T) {
	for seed := range int64(60) {
		r := rand.New(rand.NewSource(seed))
		d := formatted(t, 8)
		p := opened(t, d)
		root, lasting := 0, map[int][]byte{}
		for generation := int64(1); generation < 40; {
			// a page that is in use is not written, as in a shadow-paged store
			written, next := map[int][]byte{}, 0
			d.Arm(r.Intn(12))
			for range r.Intn(6) {
				if n := 2 + r.Intn(6); lasting[n] == nil && p.Write(n, load(n+int(generation))) == api.OK {
					written[n], next = load(n+int(generation)), n
				}
			}
			e := p.Commit(next)
			keep := slices.Repeat([]bool{r.Intn(2) == 1, r.Intn(2) == 1, r.Intn(2) == 1}, 3)
			d.Mend(keep, r.Intn(3)-1, r.Intn(514))
			p = opened(t, d)
			if _, g := p.Root(); e == api.OK || g != generation {
				root, generation, lasting = next, generation+1, written
			}
			checkRoot(t, p, root, generation)
			for n, b := range lasting {
				checkRead(t, p, n, b)
			}
			if t.Failed() {
				t.Fatalf("seed %d, generation %d", seed, generation)
			}
		}
	}
}

// 6.2, 6.3 with R1: disks of any bytes, and of heads with some bytes changed.
func TestAnyBytes(t *testing.T) {
	r := rand.New(rand.NewSource(66))
	for range 400 {
		image := make([]byte, (3+r.Intn(3))*512)
		r.Read(image)
		for n := range 2 {
			if r.Intn(3) > 0 {
				copy(image[n*512:], headPage(r.Uint64()>>r.Intn(64), uint32(r.Intn(7))))
			}
			if r.Intn(3) == 0 {
				image[n*512+r.Intn(512)] ^= byte(r.Intn(256))
			}
		}
		if w := openPair(t, loaded(t, image), loaded(t, image)); w != nil {
			w.check(t)
			w.p.Commit(2)
			w.m.commit(2)
			w.check(t)
		}
	}
}
