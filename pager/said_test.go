package pager_test

import (
	"bytes"
	"encoding/binary"
	"hash/crc32"
	"maps"
	"slices"

	"stook/api"
	"stook/draw"
	"stook/simfs"
)

// What the chapter's words say, clause by clause: an index file as a row of bytes, of which each commit makes another row, and
// sets of pages. The sums, and the numbers as bytes, are the library's.

const (
	pageBytes = 512
	mostBody  = 496
	mostPages = 65536
	mostCache = 256
	mostRoom  = 1048576
	muchSeq   = 1 << 62
)

// said: a page's kind and its body.
type said struct {
	kind uint8
	body string
}

// saidPager: what a pager is by the words: its newest root, and what stands in the pages in use, which of these were dropped,
// what stands in those that are pending, and the bytes of the file.
type saidPager struct {
	root    api.Root
	used    map[int]said
	dropped map[int]bool
	pending map[int]said
	file    []byte
}

// pageOf: the bytes of a page.
func pageOf(number int, kind uint8, body []byte) []byte {
	b := make([]byte, 4, pageBytes)
	b = binary.LittleEndian.AppendUint32(b, uint32(number))
	b = append(b, kind, 0)
	b = binary.LittleEndian.AppendUint16(b, uint16(len(body)))
	b = append(b, body...)
	b = append(b, make([]byte, pageBytes-len(b))...)
	binary.LittleEndian.PutUint32(b, crc32.Checksum(b[4:], crc32.MakeTable(crc32.Castagnoli)))
	return b
}

// rootPage: the page of a root, whether it may be or not.
func rootPage(r api.Root) []byte {
	var b []byte
	for _, n := range []uint64{r.Seq, uint64(r.Page), uint64(r.Pages), r.Lsn, r.Next, uint64(r.Shard), uint64(r.Tail)} {
		b = binary.AppendUvarint(b, n)
	}
	return pageOf(int(r.Seq%2), 1, b)
}

// rootMay: what chapter 16 says of a root.
func rootMay(r api.Root) bool {
	return r.Seq >= 1 && r.Seq <= muchSeq && r.Pages >= 2 && r.Pages <= mostPages &&
		(r.Page == 0 || r.Page >= 2 && r.Page < r.Pages) && r.Lsn <= 1<<62 && r.Next >= 1 && r.Next <= 1<<32 &&
		r.Shard >= 0 && r.Shard < 1<<31 && r.Tail >= 0 && r.Tail <= 1<<20
}

// twoPages: a file's beginning, whose newest root is that one; noughts are the other one's place.
func twoPages(r api.Root) []byte {
	b := make([]byte, 2*pageBytes)
	copy(b[int(r.Seq%2)*pageBytes:], rootPage(r))
	return b
}

// newSaid: of a file of these bytes, whose newest root is that one.
func newSaid(r api.Root, file []byte) *saidPager {
	return &saidPager{r, map[int]said{}, map[int]bool{}, map[int]said{}, bytes.Clone(file)}
}

// madeSaid: of a file as Make makes it.
func madeSaid() *saidPager {
	first := api.Root{Seq: 1, Pages: 2, Next: 1}
	return newSaid(first, twoPages(first))
}

func (s *saidPager) copied() *saidPager {
	return &saidPager{s.root, maps.Clone(s.used), maps.Clone(s.dropped), maps.Clone(s.pending), bytes.Clone(s.file)}
}

func (s *saidPager) free(n int) bool {
	_, used := s.used[n]
	_, pending := s.pending[n]
	return !used && !pending
}

// use: the page, which has that, is in use.
func (s *saidPager) use(n int, has said) api.Errno {
	switch {
	case n < 2 || n > s.root.Pages-1:
		return api.ErrArg
	case !s.free(n):
		return api.ErrTwice
	}
	s.used[n] = has
	return api.OK
}

func (s *saidPager) read(n int) (said, api.Errno) {
	if has, ok := s.pending[n]; ok {
		return has, api.OK
	}
	if has, ok := s.used[n]; ok {
		return has, api.OK
	}
	return said{}, api.ErrNone
}

func (s *saidPager) add(has said) (int, api.Errno) {
	if len(has.body) > mostBody {
		return 0, api.ErrLimit
	}
	for n := 2; n < mostPages; n++ {
		if s.free(n) {
			s.pending[n] = has
			return n, api.OK
		}
	}
	return 0, api.ErrLimit
}

func (s *saidPager) drop(n int) api.Errno {
	_, used := s.used[n]
	_, pending := s.pending[n]
	switch {
	case pending:
		delete(s.pending, n)
	case used && !s.dropped[n]:
		s.dropped[n] = true
	default:
		return api.ErrNone
	}
	return api.OK
}

func (s *saidPager) back() {
	clear(s.pending)
	clear(s.dropped)
}

// kept: the pages that the next root may need, by rising numbers.
func (s *saidPager) kept() []int {
	var l []int
	for n := range s.used {
		if !s.dropped[n] {
			l = append(l, n)
		}
	}
	for n := range s.pending {
		l = append(l, n)
	}
	slices.Sort(l)
	return l
}

// toWrite: the root that is to be written for r, and whether it may be.
func (s *saidPager) toWrite(r api.Root) (api.Root, bool) {
	kept := s.kept()
	r.Seq, r.Pages = s.root.Seq+1, 2
	if len(kept) > 0 {
		r.Pages = kept[len(kept)-1] + 1
	}
	return r, rootMay(r) && (r.Page == 0 || slices.Contains(kept, r.Page))
}

// files: what the file is behind each page that is written, the first one as it is now, and the last one the root's. Noughts
// that fill a gap come with the page behind them.
func (s *saidPager) files(r api.Root) [][]byte {
	now := bytes.Clone(s.file)
	all := [][]byte{s.file}
	for _, n := range slices.Sorted(maps.Keys(s.pending)) {
		if gap := n*pageBytes - len(now); gap > 0 {
			now = append(now, make([]byte, gap)...)
		}
		now = laid(now, n, pageOf(n, s.pending[n].kind, []byte(s.pending[n].body)))
		all = append(all, now)
	}
	return append(all, laid(now, int(r.Seq%2), rootPage(r)))
}

// laid: the bytes with the page in its place.
func laid(b []byte, n int, page []byte) []byte {
	b = bytes.Clone(b)
	room := copy(b[n*pageBytes:], page)
	return append(b, page[room:]...)
}

// commit: on a disk whose files may have so many bytes altogether, other ones of which there are none.
func (s *saidPager) commit(r api.Root, room int) api.Errno {
	r, ok := s.toWrite(r)
	if !ok {
		return api.ErrArg
	}
	all := s.files(r)
	behind := all[len(all)-1]
	if len(behind) > len(s.file) && len(behind) > room {
		return api.ErrFull
	}
	s.file, s.root = behind, r
	for n := range s.dropped {
		delete(s.used, n)
	}
	maps.Copy(s.used, s.pending)
	s.back()
	return api.OK
}

// bytesOf: the whole file.
func bytesOf(f *simfs.FS, name string) []byte {
	b, _ := f.Read(name, 0, mostRoom)
	return b
}

// diskWith: a disk of that room on which all is sure, and which has one file of these bytes.
func diskWith(room int, name string, file []byte) *simfs.FS {
	f, _ := simfs.New(room)
	f.Create(name)
	f.Append(name, file)
	f.Sync(name)
	f.SyncDir()
	return f
}

// roomy: a disk of the most room.
func roomy() *simfs.FS {
	f, _ := simfs.New(mostRoom)
	return f
}

// dying: a dead disk with a file of that name, as Make makes it.
func dying(name string) *simfs.FS {
	f := diskWith(mostRoom, name, madeSaid().file)
	f.Arm(1)
	f.SyncDir()
	return f
}

// chance: numbers by a seed.
type chance struct{ state uint64 }

func (c *chance) below(bound int) int {
	n, next, _ := draw.Below(c.state, uint64(bound))
	c.state = next
	return int(n)
}

// has: what a page may have, bodies at the edges among them.
func (c *chance) has() said {
	length := []int{0, 1, 2, 3, 17, mostBody - 1, mostBody}[c.below(7)]
	body := make([]byte, length)
	for i := range body {
		body[i] = byte(c.below(256))
	}
	return said{uint8(c.below(256)), string(body)}
}

// spoil: all that the list has room for is another one now.
func spoil[T byte | int](l []T) {
	l = l[:cap(l)]
	for i := range l {
		l[i] ^= 0x55
	}
}
