package pager

import "quarry/api"

// polynomial is that of CRC-32, its lowest power at the highest bit.
const polynomial = 0xEDB88320

// Sum is the check sum of bytes.
func Sum(b []byte) uint32 {
	s := ^uint32(0)
	for _, c := range b {
		for bit := range 8 {
			out := (s ^ uint32(c)>>bit) & 1
			s = s>>1 ^ -out&polynomial
		}
	}
	return ^s
}

// sealed is a page of this load, which has api.Payload bytes, with its sum
// behind it.
func sealed(load []byte) []byte {
	page := make([]byte, api.PageSize)
	copy(page, load)
	put(page[api.Payload:], uint64(Sum(load)))
	return page
}

// put fills b with a number's bytes, the lowest first.
func put(b []byte, number uint64) {
	for i := range b {
		b[i] = byte(number >> (8 * i))
	}
}

// number is what put has laid into b.
func number(b []byte) uint64 {
	n := uint64(0)
	for i, c := range b {
		n |= uint64(c) << (8 * i)
	}
	return n
}
