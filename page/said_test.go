package page_test

import (
	"bytes"
	"encoding/binary"
	"hash/crc32"
	"math"
	"slices"

	"stook/api"
	"stook/draw"
)

// What the chapter's words say, clause by clause, and bodies, numbers and pages to hold it against. The sums, and the
// numbers as bytes, are the library's.

const (
	pageBytes = 512
	mostBody  = 496
	mostPages = 65536
	headBytes = 12
)

// parts: what a page may say, whether it may be or not; the sum is worked out.
type parts struct {
	number uint32
	kind   uint8
	nought uint8
	size   uint16
	behind []byte // the body and what follows it
}

// bytes: a page with these parts, at whose end noughts fill what is left.
func (p parts) bytes() []byte {
	b := make([]byte, 4, pageBytes)
	b = binary.LittleEndian.AppendUint32(b, p.number)
	b = append(b, p.kind, p.nought)
	b = binary.LittleEndian.AppendUint16(b, p.size)
	b = append(b, p.behind...)
	return resummed(append(b, make([]byte, pageBytes-len(b))...))
}

// sum: that of the bytes, as the library says it.
func sum(b []byte) uint32 {
	return crc32.Checksum(b, crc32.MakeTable(crc32.Castagnoli))
}

// resummed: the bytes, whose first four are the sum of the others.
func resummed(b []byte) []byte {
	own := bytes.Clone(b)
	binary.LittleEndian.PutUint32(own, sum(own[4:]))
	return own
}

// saidPage: the page of that number, that kind and that body.
func saidPage(n int, kind uint8, body []byte) []byte {
	return parts{number: uint32(n), kind: kind, size: uint16(len(body)), behind: body}.bytes()
}

// saidPut: what P15.1 says.
func saidPut(n int, kind uint8, body []byte) ([]byte, api.Errno) {
	switch {
	case n < 0 || n > mostPages-1:
		return nil, api.ErrArg
	case len(body) > mostBody:
		return nil, api.ErrLimit
	}
	return saidPage(n, kind, body), api.OK
}

// saidGet: what P15.2 says; each thing that makes a page none is asked for by itself.
func saidGet(n int, b []byte) (uint8, []byte, api.Errno) {
	switch {
	case n < 0 || n > mostPages-1:
		return 0, nil, api.ErrArg
	case len(b) < pageBytes:
		return 0, nil, api.ErrShort
	case len(b) > pageBytes:
		return 0, nil, api.ErrForm
	case binary.LittleEndian.Uint32(b) != sum(b[4:]):
		return 0, nil, api.ErrSum
	case uint64(binary.LittleEndian.Uint32(b[4:])) != uint64(n):
		return 0, nil, api.ErrForm
	case b[9] != 0:
		return 0, nil, api.ErrForm
	}
	size := int(binary.LittleEndian.Uint16(b[10:]))
	if size > mostBody {
		return 0, nil, api.ErrForm
	}
	behind := b[headBytes:]
	if slices.ContainsFunc(behind[size:], func(c byte) bool { return c != 0 }) {
		return 0, nil, api.ErrForm
	}
	return b[8], behind[:size], api.OK
}

// chance: numbers by a seed.
type chance struct{ state uint64 }

func (c *chance) word() uint64 {
	n, next := draw.Next(c.state)
	c.state = next
	return n
}

func (c *chance) below(bound int) int {
	n, next, _ := draw.Below(c.state, uint64(bound))
	c.state = next
	return int(n)
}

// row: so many bytes, none of which is 0.
func (c *chance) row(n int) []byte {
	b := make([]byte, n)
	for i := range b {
		b[i] = byte(1 + c.below(255))
	}
	return b
}

// bodies: of each kind, at each edge.
func bodies() [][]byte {
	c := &chance{15}
	l := [][]byte{nil, {}, {0}, {0xff}, {0, 0}, {0, 1}, {1, 0}, []byte("ab"), make([]byte, mostBody), bytes.Repeat([]byte{0xff}, mostBody)}
	for _, n := range []int{1, 2, 3, 127, 128, 255, 256, 257, 300, 494, 495, mostBody} {
		l = append(l, c.row(n), append(c.row(n-1), 0), append([]byte{0}, c.row(n-1)...))
	}
	return l
}

// numbers: those that a page may have, at the edges and at each bit.
func numbers() []int {
	l := []int{0, 3, 5, 7, 255, 257, 1000, 0x1234, 0xfffe, 0xffff}
	for k := range 16 {
		l = append(l, 1<<k)
	}
	return l
}

// notNumbers: those that no page has, some of which a narrow integer would take for one that it has.
func notNumbers() []int {
	l := []int{-1, -2, -5, -256, -65535, -65536, -65537, 65536, 65537, 65541, 131072, math.MinInt32, math.MaxInt32,
		math.MinInt, math.MinInt + 5, math.MaxInt, math.MaxInt - 65535}
	for k := 16; k < 63; k++ {
		l = append(l, 1<<k, 1<<k+5, -1<<k, 5-1<<k)
	}
	return l
}

// pages: some that may be, each with its number.
func pages() []struct {
	n int
	b []byte
} {
	var l []struct {
		n int
		b []byte
	}
	kinds, ns := &chance{8}, numbers()
	for i, body := range bodies() {
		n := ns[i%len(ns)]
		l = append(l, struct {
			n int
			b []byte
		}{n, saidPage(n, uint8(kinds.word()), body)})
	}
	return l
}
