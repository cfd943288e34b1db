package root_test

import (
	"bytes"
	"encoding/binary"
	"hash/crc32"
	"math"
	"slices"

	"stook/api"
	"stook/draw"
	"stook/page"
)

// What the chapter's words say, clause by clause, and roots, bodies and pages to hold it against. The sums, and the numbers as
// bytes, are the library's.

const (
	pageBytes = 512
	mostBody  = 496
	much      = 1 << 62 // of Seq and of Lsn
)

// numbers: what stands in a root, one behind the other, as it stands in the bytes.
type numbers [7]uint64

// The places of the numbers.
const (
	seqAt = iota
	pageAt
	pagesAt
	lsnAt
	nextAt
	shardAt
	tailAt
)

// of: the numbers of the root; below 0 they are great ones, which may not be either.
func of(r api.Root) numbers {
	return numbers{r.Seq, uint64(r.Page), uint64(r.Pages), r.Lsn, r.Next, uint64(r.Shard), uint64(r.Tail)}
}

// root: that of the numbers, each of which an int holds.
func (n numbers) root() api.Root {
	return api.Root{Seq: n[seqAt], Page: int(n[pageAt]), Pages: int(n[pagesAt]), Lsn: n[lsnAt], Next: n[nextAt], Shard: int(n[shardAt]), Tail: int(n[tailAt])}
}

// mayBe: what the words say of a root, each number held against the least and the most.
func (n numbers) mayBe() bool {
	least := numbers{seqAt: 1, pagesAt: 2, nextAt: 1}
	most := numbers{much, 65536, 65536, much, 1 << 32, 1<<31 - 1, 1048576}
	for i := range n {
		if n[i] < least[i] || n[i] > most[i] {
			return false
		}
	}
	return n[pageAt] == 0 || n[pageAt] >= 2 && n[pageAt] <= n[pagesAt]-1
}

// bytes: the numbers as the library lays them.
func (n numbers) bytes() []byte {
	var b []byte
	for _, x := range n {
		b = binary.AppendUvarint(b, x)
	}
	return b
}

// pageOf: a page of that number, that kind and that body, whose sum is right.
func pageOf(number int, kind uint8, body []byte) []byte {
	b := make([]byte, 4, pageBytes)
	b = binary.LittleEndian.AppendUint32(b, uint32(number))
	b = append(b, kind, 0)
	b = binary.LittleEndian.AppendUint16(b, uint16(len(body)))
	b = append(b, body...)
	b = append(b, make([]byte, pageBytes-len(b))...)
	binary.LittleEndian.PutUint32(b, crc32.Checksum(b[4:], crc32.MakeTable(crc32.Castagnoli)))
	return b
}

// saidPlace: its place.
func saidPlace(n uint64) int {
	if n/2*2 == n {
		return 0
	}
	return 1
}

// saidPage: the page of the numbers, whether they are a root's or not.
func saidPage(n numbers) []byte {
	return pageOf(saidPlace(n[seqAt]), 1, n.bytes())
}

// saidPut: what P16.1 says of Put.
func saidPut(r api.Root) ([]byte, api.Errno) {
	if !of(r).mayBe() {
		return nil, api.ErrArg
	}
	return saidPage(of(r)), api.OK
}

// saidNumbers: the seven numbers that the bytes are, each in its one form.
func saidNumbers(b []byte) (numbers, bool) {
	var n numbers
	for i := range n {
		x, size := binary.Uvarint(b)
		if size <= 0 || size > 1 && b[size-1] == 0 {
			return numbers{}, false
		}
		n[i], b = x, b[size:]
	}
	return n, len(b) == 0
}

// saidGet: what P16.1 says of Get.
func saidGet(place int, b []byte) (api.Root, api.Errno) {
	if place < 0 || place > 1 {
		return api.Root{}, api.ErrArg
	}
	kind, body, e := page.Get(place, b)
	if e != api.OK {
		return api.Root{}, e
	}
	n, ok := saidNumbers(body)
	if kind != 1 || !ok || !n.mayBe() || saidPlace(n[seqAt]) != place {
		return api.Root{}, api.ErrForm
	}
	return n.root(), api.OK
}

// saidPick: what P16.2 says.
func saidPick(first, second []byte) (api.Root, api.Errno) {
	a, ea := saidGet(0, first)
	b, eb := saidGet(1, second)
	switch {
	case ea != api.OK && eb != api.OK:
		return api.Root{}, api.ErrNone
	case ea != api.OK, eb == api.OK && b.Seq > a.Seq:
		return b, api.OK
	}
	return a, api.OK
}

// chance: numbers by a seed.
type chance struct{ state uint64 }

func (c *chance) word() uint64 {
	n, next := draw.Next(c.state)
	c.state = next
	return n
}

func (c *chance) below(bound int) int {
	n, next, _ := draw.Below(c.state, uint64(bound))
	c.state = next
	return int(n)
}

// example: the chapter's R.
func example() api.Root {
	return api.Root{Seq: 5, Page: 7, Pages: 9, Lsn: 3, Next: 4, Shard: 0, Tail: 20}
}

// roots: some that may be, of each place and at each edge.
func roots() []api.Root {
	return []api.Root{
		example(),
		{Seq: 1, Pages: 2, Next: 1},
		{Seq: 2, Pages: 2, Next: 1},
		{Seq: 2, Page: 2, Pages: 3, Next: 1},
		{Seq: 127, Page: 126, Pages: 127, Lsn: 127, Next: 127, Shard: 127, Tail: 127},
		{Seq: 128, Page: 128, Pages: 129, Lsn: 128, Next: 128, Shard: 128, Tail: 128},
		{Seq: 300, Page: 16383, Pages: 16384, Lsn: 1 << 32, Next: math.MaxUint32, Shard: 1 << 30, Tail: 65536},
		{Seq: much - 1, Page: 65535, Pages: 65536, Lsn: much - 1, Next: 1<<32 - 1, Shard: 1<<31 - 2, Tail: 1048575},
		{Seq: much, Page: 65535, Pages: 65536, Lsn: much, Next: 1 << 32, Shard: 1<<31 - 1, Tail: 1048576},
		{Seq: much, Page: 0, Pages: 65536, Lsn: 0, Next: 1, Shard: 0, Tail: 0},
	}
}

// edges: of each number in a root those at which something changes, those beside them, and some that may not be, which a
// narrow integer, or one with a sign, would take for others that may.
func edges() [7][]uint64 {
	great := []uint64{0, 1, 2, 3, 5, 6, 255, 256, 1 << 32, much - 1, much, much + 1, 1<<63 - 1, 1 << 63, 1<<63 + 5, math.MaxUint64 - 1, math.MaxUint64}
	minus := []uint64{1 << 63, 1<<63 + 7, math.MaxUint64 - 6, math.MaxUint64 - 1, math.MaxUint64, 1<<63 - 1, 1 << 32, 1<<32 + 7, 1<<31 + 7, 1 << 16, 1<<16 + 7}
	return [7][]uint64{
		seqAt:   great,
		pageAt:  append([]uint64{0, 1, 2, 3, 6, 7, 8, 9, 10, 11, 127, 128, 65534, 65535, 65536, 65537}, minus...),
		pagesAt: append([]uint64{0, 1, 2, 3, 6, 7, 8, 9, 10, 127, 128, 65534, 65535, 65536, 65537}, minus...),
		lsnAt:   great,
		nextAt:  append([]uint64{0, 1, 2, 4, 127, 128, 1<<32 - 2, 1<<32 - 1, 1 << 32, 1<<32 + 1, 1<<33 + 4, 1<<63 - 1}, great...),
		shardAt: append([]uint64{0, 1, 2, 127, 128, 1<<31 - 2, 1<<31 - 1, 1 << 31, 1<<31 + 1, 1<<32 - 1}, minus...),
		tailAt:  append([]uint64{0, 1, 20, 127, 128, 1048575, 1048576, 1048577, 1 << 21}, minus...),
	}
}

// eachPair: the example with each two of its numbers at all their edges.
func eachPair(yield func(numbers)) {
	all := edges()
	for i := range all {
		for j := range i {
			for _, x := range all[i] {
				for _, y := range all[j] {
					n := of(example())
					n[i], n[j] = x, y
					yield(n)
				}
			}
		}
	}
}

// someEdges: so many rows of numbers at their edges, or each number of the example.
func someEdges(c *chance, count int, yield func(numbers)) {
	all := edges()
	for range count {
		n := of(example())
		for i := range n {
			if c.below(2) == 0 {
				n[i] = all[i][c.below(len(all[i]))]
			}
		}
		yield(n)
	}
}

// eachRow: all rows of that length of few kinds of bytes.
func eachRow(few []byte, length int, yield func([]byte)) {
	rows := 1
	for range length {
		rows *= len(few)
	}
	row := make([]byte, length)
	for k := range rows {
		for i, rest := 0, k; i < length; i, rest = i+1, rest/len(few) {
			row[i] = few[rest%len(few)]
		}
		yield(row)
	}
}

// noPages: bytes of which none is a page at any place of roots, and pages of which none is a root's.
func noPages(r api.Root) [][]byte {
	good := saidPage(of(r))
	place := saidPlace(r.Seq)
	spoilt := bytes.Clone(good)
	spoilt[13] ^= 1
	above := of(r)
	above[seqAt] = much + 2 + uint64(place)
	odd := of(r)
	odd[seqAt]++
	nothing := numbers{}
	return [][]byte{
		nil, {}, {1}, make([]byte, 511), make([]byte, 512), make([]byte, 513), good[:511], append(bytes.Clone(good), 0), spoilt,
		pageOf(place, 0, of(r).bytes()), pageOf(place, 2, of(r).bytes()), pageOf(place, 0x81, of(r).bytes()),
		pageOf(1-place, 1, of(r).bytes()), pageOf(place+2, 1, of(r).bytes()), pageOf(place, 1, odd.bytes()),
		saidPage(above), saidPage(nothing), pageOf(place, 1, nil),
		pageOf(place, 1, append(of(r).bytes(), 0)), pageOf(place, 1, of(r).bytes()[:6]),
	}
}

// spoil: all that the list has room for is another one now.
func spoil(l []byte) {
	l = l[:cap(l)]
	for i := range l {
		l[i] ^= 0xff
	}
}

// longer: the bytes of the numbers, of which the one at that place has so many bytes more than it need have, if there are ten
// at most.
func longer(n numbers, place, more int) ([]byte, bool) {
	var b []byte
	for i, x := range n {
		own := binary.AppendUvarint(nil, x)
		if i == place {
			if len(own)+more > 10 {
				return nil, false
			}
			own[len(own)-1] |= 0x80
			own = slices.Concat(own, bytes.Repeat([]byte{0x80}, more-1), []byte{0})
		}
		b = append(b, own...)
	}
	return b, true
}
