package pager

import (
	"bytes"

	"quarry/api"
	"quarry/disk"
)

// How a record is laid out, and what it begins with.
const (
	mark         = "QRY1"
	rootAt       = 12
	recordSize   = 16
	lastRecordAt = api.Payload - recordSize
)

// lastGeneration is the greatest of a head that is read.
const lastGeneration = 1 << 62

// head says which generation of all that lasts it is, and its root.
type head struct {
	generation int64
	root       int // 0: none
}

// home is the page that h lies in. Heads that follow one another take turns, so
// a write that is torn spares the newest.
func (h head) home() int { return int(h.generation % heads) }

func (h head) record() []byte {
	r := make([]byte, recordSize)
	copy(r, mark)
	put(r[len(mark):rootAt], uint64(h.generation))
	put(r[rootAt:], uint64(h.root))
	return r
}

// page is all bytes of the page that h lies in.
func (h head) page() []byte {
	load := make([]byte, api.Payload)
	copy(load, h.record())
	copy(load[lastRecordAt:], h.record())
	return sealed(load)
}

// headOf is the head that the n-th page has, on a disk of so many pages. What
// its first record names is laid out anew, and held against the page whole.
func headOf(page []byte, n, pages int) (head, bool) {
	generation, root := number(page[len(mark):rootAt]), number(page[rootAt:recordSize])
	if generation > lastGeneration {
		return head{}, false
	}
	h := head{generation: int64(generation), root: int(root)}
	if h.home() != n || !isRoot(h.root, pages) || !bytes.Equal(h.page(), page) {
		return head{}, false
	}
	return h, true
}

// lay writes h into its page.
func lay(d *disk.Disk, h head) api.Errno { return d.Write(h.home(), h.page()) }
