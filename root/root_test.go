package root_test

import (
	"bytes"
	"encoding/binary"
	"math"
	"slices"
	"testing"

	"stook/api"
	"stook/page"
	"stook/root"
)

// put: the root's page, which must be there.
func put(t *testing.T, r api.Root) []byte {
	t.Helper()
	b, e := root.Put(r)
	if e != api.OK {
		t.Fatalf("Put(%v): %v", r, e)
	}
	return b
}

// putAs: Put and Place say of the root what the words say.
func putAs(t *testing.T, r api.Root) {
	t.Helper()
	want, why := saidPut(r)
	if b, e := root.Put(r); !bytes.Equal(b, want) || e != why {
		t.Errorf("Put(%v) = %d bytes, %x.., %v, not %d bytes, %x.., %v", r, len(b), b[:min(60, len(b))], e, len(want), want[:min(60, len(want))], why)
	}
	if place := root.Place(r); place != saidPlace(r.Seq) {
		t.Errorf("Place(%v) = %d", r, place)
	}
}

// getAs: Get says of the bytes what the words say; and what is read is written as the bytes that were read.
func getAs(t *testing.T, place int, b []byte) {
	t.Helper()
	want, why := saidGet(place, b)
	r, e := root.Get(place, b)
	if r != want || e != why {
		t.Errorf("Get(%d, %d bytes, %x..) = %v, %v, not %v, %v", place, len(b), b[:min(60, len(b))], r, e, want, why)
	}
	if e != api.OK {
		return
	}
	if again := put(t, r); !bytes.Equal(again, b) || root.Place(r) != place {
		t.Errorf("Put of what Get(%d, %x..) tells is %x.., at %d", place, b[:60], again[:60], root.Place(r))
	}
}

// getRefused: Get tells this error of the bytes, and nothing beside.
func getRefused(t *testing.T, place int, b []byte, why api.Errno) {
	t.Helper()
	if r, e := root.Get(place, b); r != (api.Root{}) || e != why {
		t.Errorf("Get(%d, %d bytes, %x..) = %v, %v, not %v", place, len(b), b[:min(60, len(b))], r, e, why)
	}
}

// pickAs: Pick says of the two pages what the words say.
func pickAs(t *testing.T, first, second []byte) {
	t.Helper()
	want, why := saidPick(first, second)
	pickIs(t, first, second, want, why)
}

// pickIs: Pick tells this root, or this error.
func pickIs(t *testing.T, first, second []byte, want api.Root, why api.Errno) {
	t.Helper()
	if r, e := root.Pick(first, second); r != want || e != why {
		t.Errorf("Pick(%x.., %x..) = %v, %v, not %v, %v", first[:min(30, len(first))], second[:min(30, len(second))], r, e, want, why)
	}
}

func TestP16_1Examples(t *testing.T) {
	r := example()
	b := put(t, r)
	if want := []byte{5, 7, 9, 3, 4, 0, 0x14}; root.Place(r) != 1 || len(b) != 512 || !bytes.Equal(b[12:19], want) {
		t.Errorf("Place and Put of %v: %d, %x", r, root.Place(r), b)
	}
	if x, e := root.Get(1, b); x != r || e != api.OK {
		t.Errorf("Get(1, Put(R)) = %v, %v", x, e)
	}
	getRefused(t, 0, b, api.ErrForm)
	for _, bad := range []int{1, 9} {
		r.Page = bad
		if b, e := root.Put(r); b != nil || e != api.ErrArg {
			t.Errorf("Put(R with Page %d) = %x, %v", bad, b, e)
		}
	}
}

// A page of the kind 1, at the place, with the seven numbers in their order, and nothing else.
func TestP16_1WhereThingsStand(t *testing.T) {
	r := api.Root{Seq: 300, Page: 128, Pages: 129, Lsn: 1 << 62, Next: 1 << 32, Shard: 1<<31 - 1, Tail: 1 << 20}
	want := slices.Concat([]byte{0xac, 2, 0x80, 1, 0x81, 1}, bytes.Repeat([]byte{0x80}, 8), []byte{0x40},
		[]byte{0x80, 0x80, 0x80, 0x80, 0x10, 0xff, 0xff, 0xff, 0xff, 7, 0x80, 0x80, 0x40})
	if kind, body, e := page.Get(0, put(t, r)); kind != 1 || !bytes.Equal(body, want) || e != api.OK {
		t.Errorf("the page of %v: %d, %x, %v", r, kind, body, e)
	}
	r.Seq = 301
	want[0] = 0xad
	if kind, body, e := page.Get(1, put(t, r)); kind != 1 || !bytes.Equal(body, want) || e != api.OK {
		t.Errorf("the page of %v: %d, %x, %v", r, kind, body, e)
	}
}

func TestP16_1PutAsTheWordsSay(t *testing.T) {
	for _, r := range roots() {
		if _, e := root.Put(r); e != api.OK {
			t.Errorf("Put(%v): %v", r, e)
		}
		putAs(t, r)
	}
	may := 0
	check := func(n numbers) {
		if n.mayBe() {
			may++
		}
		putAs(t, n.root())
	}
	eachPair(check)
	someEdges(&chance{1}, 20000, check)
	if may < 1000 {
		t.Errorf("%d roots may be: too few to tell", may)
	}
	putAs(t, api.Root{})
}

// Of each number that is one beyond what it may be, and of it just as it may be.
func TestP16_1PutAtEachLimit(t *testing.T) {
	for i, c := range []struct {
		change func(r *api.Root)
		e      api.Errno
	}{
		{func(r *api.Root) { r.Seq = 0 }, api.ErrArg},
		{func(r *api.Root) { r.Seq = 1 }, api.OK},
		{func(r *api.Root) { r.Seq = 1 << 62 }, api.OK},
		{func(r *api.Root) { r.Seq = 1<<62 + 1 }, api.ErrArg},
		{func(r *api.Root) { r.Seq = math.MaxUint64 }, api.ErrArg},
		{func(r *api.Root) { r.Page = math.MinInt }, api.ErrArg},
		{func(r *api.Root) { r.Page = -1 }, api.ErrArg},
		{func(r *api.Root) { r.Page = 0 }, api.OK},
		{func(r *api.Root) { r.Page = 1 }, api.ErrArg},
		{func(r *api.Root) { r.Page = 2 }, api.OK},
		{func(r *api.Root) { r.Page = 8 }, api.OK},
		{func(r *api.Root) { r.Page = 9 }, api.ErrArg},
		{func(r *api.Root) { r.Page = 10 }, api.ErrArg},
		{func(r *api.Root) { r.Page = math.MaxInt }, api.ErrArg},
		{func(r *api.Root) { r.Page, r.Pages = 0, -1 }, api.ErrArg},
		{func(r *api.Root) { r.Page, r.Pages = 0, math.MinInt }, api.ErrArg},
		{func(r *api.Root) { r.Page, r.Pages = 0, 0 }, api.ErrArg},
		{func(r *api.Root) { r.Page, r.Pages = 0, 1 }, api.ErrArg},
		{func(r *api.Root) { r.Page, r.Pages = 0, 2 }, api.OK},
		{func(r *api.Root) { r.Page, r.Pages = 1, 2 }, api.ErrArg},
		{func(r *api.Root) { r.Page, r.Pages = 2, 2 }, api.ErrArg},
		{func(r *api.Root) { r.Page, r.Pages = 2, 3 }, api.OK},
		{func(r *api.Root) { r.Page, r.Pages = 65535, 65536 }, api.OK},
		{func(r *api.Root) { r.Page, r.Pages = 65536, 65536 }, api.ErrArg},
		{func(r *api.Root) { r.Page, r.Pages = 65536, 65537 }, api.ErrArg},
		{func(r *api.Root) { r.Page, r.Pages = 0, 65537 }, api.ErrArg},
		{func(r *api.Root) { r.Page, r.Pages = 0, math.MaxInt }, api.ErrArg},
		{func(r *api.Root) { r.Lsn = 0 }, api.OK},
		{func(r *api.Root) { r.Lsn = 1 << 62 }, api.OK},
		{func(r *api.Root) { r.Lsn = 1<<62 + 1 }, api.ErrArg},
		{func(r *api.Root) { r.Lsn = math.MaxUint64 }, api.ErrArg},
		{func(r *api.Root) { r.Next = 0 }, api.ErrArg},
		{func(r *api.Root) { r.Next = 1 }, api.OK},
		{func(r *api.Root) { r.Next = 4294967295 }, api.OK},
		{func(r *api.Root) { r.Next = 4294967296 }, api.OK},
		{func(r *api.Root) { r.Next = 4294967297 }, api.ErrArg},
		{func(r *api.Root) { r.Next = math.MaxUint64 }, api.ErrArg},
		{func(r *api.Root) { r.Shard = -1 }, api.ErrArg},
		{func(r *api.Root) { r.Shard = math.MinInt }, api.ErrArg},
		{func(r *api.Root) { r.Shard = 1<<31 - 1 }, api.OK},
		{func(r *api.Root) { r.Shard = 1 << 31 }, api.ErrArg},
		{func(r *api.Root) { r.Shard = math.MaxInt }, api.ErrArg},
		{func(r *api.Root) { r.Tail = -1 }, api.ErrArg},
		{func(r *api.Root) { r.Tail = math.MinInt }, api.ErrArg},
		{func(r *api.Root) { r.Tail = 0 }, api.OK},
		{func(r *api.Root) { r.Tail = 1048576 }, api.OK},
		{func(r *api.Root) { r.Tail = 1048577 }, api.ErrArg},
		{func(r *api.Root) { r.Tail = math.MaxInt }, api.ErrArg},
	} {
		r := example()
		c.change(&r)
		if b, e := root.Put(r); e != c.e || (b == nil) != (e != api.OK) {
			t.Errorf("%d: Put(%v) = %d bytes, %v, not %v", i, r, len(b), e, c.e)
		}
		putAs(t, r)
	}
}

// All numbers of pages and pages that are small, or near to the most there may be.
func TestP16_1PutOfPageAndPages(t *testing.T) {
	for _, base := range []int{0, 65526} {
		for its := base - 2; its < base+14; its++ {
			for pages := base - 2; pages < base+14; pages++ {
				r := example()
				r.Page, r.Pages = its, pages
				putAs(t, r)
				r.Page = 0
				putAs(t, r)
			}
		}
	}
}

// Also of roots that may not be.
func TestP16_1PlaceOfAnyRoot(t *testing.T) {
	for _, c := range []struct {
		seq   uint64
		place int
	}{{0, 0}, {1, 1}, {2, 0}, {3, 1}, {255, 1}, {256, 0}, {1<<62 - 1, 1}, {1 << 62, 0}, {1<<62 + 1, 1}, {1<<63 - 1, 1}, {1 << 63, 0}, {1<<63 + 1, 1}, {math.MaxUint64 - 1, 0}, {math.MaxUint64, 1}} {
		for _, r := range []api.Root{{}, example(), {Page: -1, Pages: -1, Shard: -1, Tail: -1}, {Page: 1, Pages: 1, Lsn: 1, Next: 1, Shard: 1, Tail: 1}} {
			r.Seq = c.seq
			if place := root.Place(r); place != c.place {
				t.Errorf("Place(%v) = %d", r, place)
			}
		}
	}
}

// A place that there is not comes ahead of all that is wrong with the bytes.
func TestP16_1GetOfOtherPlaces(t *testing.T) {
	for _, place := range []int{-1, -2, 2, 3, 5, 255, 256, 257, 65535, 65536, 65537, 1 << 32, 1<<32 + 1, -1 << 32, 1 - 1<<32, math.MinInt, math.MinInt + 1, math.MaxInt, math.MaxInt - 1} {
		getRefused(t, place, put(t, example()), api.ErrArg)
		for _, b := range noPages(example()) {
			getRefused(t, place, b, api.ErrArg)
		}
		if place >= 0 && place < 65536 {
			getRefused(t, place, pageOf(place, 1, of(example()).bytes()), api.ErrArg)
		}
	}
}

// What page.Get says comes ahead of what the body is.
func TestP16_1GetTellsPagesErrors(t *testing.T) {
	for _, r := range roots() {
		b := put(t, r)
		place := root.Place(r)
		for size := range 512 {
			getRefused(t, place, b[:size], api.ErrShort)
		}
		getRefused(t, place, append(bytes.Clone(b), 0), api.ErrForm)
		getRefused(t, place, append(bytes.Clone(b), b...), api.ErrForm)
		getRefused(t, place, make([]byte, 512), api.ErrSum)
		getRefused(t, 1-place, make([]byte, 512), api.ErrSum)
		for at := range 512 {
			near := bytes.Clone(b)
			near[at] ^= 1 << (at % 8)
			getRefused(t, place, near, api.ErrSum)
			getRefused(t, 1-place, near, api.ErrSum)
		}
		getRefused(t, 1-place, b, api.ErrForm)
	}
	getRefused(t, 0, nil, api.ErrShort)
	getRefused(t, 1, []byte{}, api.ErrShort)
}

// A page whose body is a root's, and which is none: of another kind, or at another place than the root's own.
func TestP16_1GetOfWhatIsNoRootsPage(t *testing.T) {
	for _, r := range roots() {
		place := root.Place(r)
		body := of(r).bytes()
		for kind := range 256 {
			if kind != 1 {
				getRefused(t, place, pageOf(place, uint8(kind), body), api.ErrForm)
			}
		}
		getRefused(t, 1-place, pageOf(1-place, 1, body), api.ErrForm)
		for number := 2; number < 65536; number = number*3 - 1 {
			getRefused(t, place, pageOf(number, 1, body), api.ErrForm)
		}
	}
}

// Bodies that are nearly a root's: cut, with bytes ahead or behind, with a number in a longer form, with each byte another one.
func TestP16_1GetOfNearBodies(t *testing.T) {
	for _, r := range roots() {
		place := root.Place(r)
		body := of(r).bytes()
		getAs(t, place, pageOf(place, 1, body))
		for size := range body {
			getRefused(t, place, pageOf(place, 1, body[:size]), api.ErrForm)
			// Cut at its beginning the first number may be another one that may be.
			getAs(t, place, pageOf(place, 1, body[size+1:]))
		}
		for c := range 256 {
			getRefused(t, place, pageOf(place, 1, append(bytes.Clone(body), byte(c))), api.ErrForm)
			getAs(t, place, pageOf(place, 1, append([]byte{byte(c)}, body...)))
		}
		getRefused(t, place, pageOf(place, 1, append(bytes.Clone(body), make([]byte, mostBody-len(body))...)), api.ErrForm)
		getRefused(t, place, pageOf(place, 1, slices.Concat(body, body)), api.ErrForm)
		for i := range of(r) {
			for more := 1; more < 10; more++ {
				if b, ok := longer(of(r), i, more); ok {
					getRefused(t, place, pageOf(place, 1, b), api.ErrForm)
				}
			}
		}
		for at := range body {
			for change := 1; change < 256; change++ {
				near := bytes.Clone(body)
				near[at] ^= byte(change)
				getAs(t, place, pageOf(place, 1, near))
			}
		}
	}
}

// Pages with right sums, of roots that may not be, those among them which a narrow integer would take for others.
func TestP16_1GetOfRootsThatMayNotBe(t *testing.T) {
	may := 0
	check := func(n numbers) {
		b := saidPage(n)
		place := saidPlace(n[seqAt])
		getAs(t, place, b)
		if n.mayBe() {
			may++
			return
		}
		getRefused(t, place, b, api.ErrForm)
	}
	eachPair(check)
	someEdges(&chance{2}, 20000, check)
	for i := range len(numbers{}) {
		for k := range 64 {
			n := of(example())
			n[i] |= 1 << k
			check(n)
		}
	}
	if may < 1000 {
		t.Errorf("%d roots may be: too few to tell", may)
	}
	getRefused(t, 0, saidPage(numbers{}), api.ErrForm)
}

// A number of more than 64 bits, at each place of a root.
func TestP16_1GetOfNumbersThatAreNone(t *testing.T) {
	nine := bytes.Repeat([]byte{0xff}, 9)
	for i := range len(numbers{}) {
		for _, last := range [][]byte{{1}, {2}, {0x7f}, {0x80}, {0x81, 0}, {0x81, 1}, {0}} {
			var body []byte
			for j, x := range of(example()) {
				if j == i {
					body = slices.Concat(body, nine, last)
					continue
				}
				body = binary.AppendUvarint(body, x)
			}
			getRefused(t, 1, pageOf(1, 1, body), api.ErrForm)
			getRefused(t, 0, pageOf(0, 1, body), api.ErrForm)
		}
	}
}

func TestP16_1GetAsTheWordsSay(t *testing.T) {
	got := 0
	check := func(row []byte) {
		place := int(row[0] % 2)
		b := pageOf(place, 1, row)
		if _, e := root.Get(place, b); e == api.OK {
			got++
		}
		getAs(t, place, b)
	}
	for length := 1; length <= 8; length++ {
		few := []byte{0, 1, 2, 3, 0x80, 0xff}
		if length > 6 {
			few = []byte{0, 1, 3, 0x80}
		}
		eachRow(few, length, check)
	}
	if got < 200 {
		t.Errorf("%d rows are a root's: too few to tell", got)
	}
	c := &chance{3}
	for range 5000 {
		row := make([]byte, c.below(mostBody+1))
		for i := range row {
			row[i] = byte(c.word())
		}
		place := c.below(2)
		getAs(t, place, pageOf(place, 1, row))
	}
}

func TestP16_2Examples(t *testing.T) {
	noughts := make([]byte, 512)
	pickIs(t, noughts, put(t, example()), example(), api.OK)
	pickIs(t, noughts, noughts, api.Root{}, api.ErrNone)
}

// seqs: roots of these Seqs, which are unlike beside that, too.
func seqs(l ...uint64) []api.Root {
	var rs []api.Root
	for i, n := range l {
		rs = append(rs, api.Root{Seq: n, Page: i % 3 * 2, Pages: 5 + i, Lsn: uint64(1000 - i), Next: uint64(1 + i), Shard: 9 - i%9, Tail: i})
	}
	return rs
}

// The greater Seq counts, whatever else is greater, wherever it stands, and however far both are from another.
func TestP16_2TheGreaterSeq(t *testing.T) {
	rs := seqs(1, 2, 3, 4, 5, 6, 9, 127, 128, 129, 255, 256, 257, 1<<31-1, 1<<31, 1<<32-1, 1<<32, 1<<32+1, 1<<61, 1<<62-2, 1<<62-1, 1<<62)
	for _, a := range rs {
		for _, b := range rs {
			first, second := put(t, a), put(t, b)
			pickAs(t, first, second)
			if a.Seq%2 != 0 || b.Seq%2 != 1 {
				continue
			}
			want := a
			if b.Seq > a.Seq {
				want = b
			}
			pickIs(t, first, second, want, api.OK)
			// At each other's place none is a root's page.
			pickIs(t, second, first, api.Root{}, api.ErrNone)
		}
	}
	// Lsn, Next, Shard, Tail and the page do not count.
	old := api.Root{Seq: 8, Page: 60000, Pages: 65536, Lsn: 1 << 62, Next: 1 << 32, Shard: 1<<31 - 1, Tail: 1048576}
	newest := api.Root{Seq: 9, Pages: 2, Next: 1}
	pickIs(t, put(t, old), put(t, newest), newest, api.OK)
}

func TestP16_2OfPagesThatAreNoRoots(t *testing.T) {
	for _, r := range seqs(1, 2, 5, 6, 1<<62-1, 1<<62) {
		for _, other := range seqs(1, 2, 7, 8, 1<<62-1, 1<<62) {
			for _, no := range noPages(other) {
				good := put(t, r)
				switch root.Place(r) {
				case 0:
					pickIs(t, good, no, r, api.OK)
					pickIs(t, no, good, api.Root{}, api.ErrNone)
				default:
					pickIs(t, no, good, r, api.OK)
					pickIs(t, good, no, api.Root{}, api.ErrNone)
				}
			}
		}
		for _, no := range noPages(r) {
			for _, one := range noPages(example()) {
				pickIs(t, no, one, api.Root{}, api.ErrNone)
				pickIs(t, one, no, api.Root{}, api.ErrNone)
			}
		}
	}
}

// Of bytes that are one list in memory, too.
func TestP16_2OfOnePageTwice(t *testing.T) {
	for _, r := range roots() {
		b := put(t, r)
		pickIs(t, b, b, r, api.OK)
	}
	pickIs(t, nil, nil, api.Root{}, api.ErrNone)
}

func TestP16_3WhatIsPutIsGot(t *testing.T) {
	check := func(n numbers) {
		if !n.mayBe() {
			return
		}
		r := n.root()
		b := put(t, r)
		if x, e := root.Get(root.Place(r), b); x != r || e != api.OK {
			t.Errorf("Get of Put(%v) = %v, %v", r, x, e)
		}
		getRefused(t, 1-root.Place(r), b, api.ErrForm)
	}
	for _, r := range roots() {
		check(of(r))
	}
	eachPair(check)
	c := &chance{4}
	for range 5000 {
		pages := 2 + c.below(65535)
		n := numbers{1 + c.word()>>(2+c.below(60)), 0, uint64(pages), c.word() >> (2 + c.below(60)), 1 + c.word()>>(32+c.below(32)), c.word() >> (33 + c.below(30)), uint64(c.below(1048577))}
		if pages > 2 && c.below(5) > 0 {
			n[pageAt] = uint64(2 + c.below(pages-2))
		}
		if !n.mayBe() {
			t.Errorf("%v may not be", n)
		}
		check(n)
	}
}

// Whichever of two pages is spoilt, the other one's root is told, be it the newer one or not.
func TestP16_3OneOfTwoIsSpoilt(t *testing.T) {
	for _, r := range roots() {
		next := r
		next.Seq, next.Lsn, next.Tail = r.Seq-1, r.Lsn/2+1, r.Tail/2
		if r.Seq == 1 {
			next.Seq = 2
		}
		var two [2][]byte
		two[root.Place(r)], two[root.Place(next)] = put(t, r), put(t, next)
		pickAs(t, two[0], two[1])
		for at := range 512 {
			spoilt := bytes.Clone(two[root.Place(r)])
			spoilt[at] ^= 1 << ((at + int(r.Seq)) % 8)
			pages := two
			pages[root.Place(r)] = spoilt
			pickIs(t, pages[0], pages[1], next, api.OK)
			spoilt = bytes.Clone(two[root.Place(next)])
			spoilt[at] = ^spoilt[at]
			pages = two
			pages[root.Place(next)] = spoilt
			pickIs(t, pages[0], pages[1], r, api.OK)
		}
	}
}

// A root is written over the one ahead of the newest; of the bytes at its place only some are written. Then the newest root is
// told, till all that is unlike is written.
func TestP16_3ARootThatIsWrittenInPart(t *testing.T) {
	c := &chance{5}
	var two [2][]byte
	newest := api.Root{Seq: 1, Pages: 2, Next: 1}
	two[1] = put(t, newest)
	for range 12 {
		next := api.Root{Seq: newest.Seq + 1, Page: 2 + c.below(100), Pages: 200 + c.below(10000), Lsn: newest.Lsn + uint64(c.below(300)), Next: newest.Next + uint64(c.below(300)), Shard: c.below(40), Tail: c.below(65536)}
		place := root.Place(next)
		old, whole := make([]byte, 512), put(t, next)
		copy(old, two[place])
		for size := range 513 {
			for _, part := range [][]byte{slices.Concat(whole[:size], old[size:]), slices.Concat(old[:size], whole[size:])} {
				want := newest
				if bytes.Equal(part, whole) {
					want = next
				}
				pages := two
				pages[place] = part
				pickIs(t, pages[0], pages[1], want, api.OK)
			}
		}
		two[place], newest = whole, next
	}
}

func TestP16_3PlacesOfRootsThatFollow(t *testing.T) {
	starts := []uint64{0, 1, 126, 127, 254, 255, 1<<32 - 2, 1<<62 - 4, 1<<62 - 1, 1 << 62, 1<<63 - 1, math.MaxUint64 - 9}
	for _, start := range starts {
		for n := start; n < start+8; n++ {
			a, b := root.Place(api.Root{Seq: n}), root.Place(api.Root{Seq: n + 1})
			if a == b || a < 0 || a > 1 || b < 0 || b > 1 {
				t.Errorf("the places of the Seqs %d and %d: %d, %d", n, n+1, a, b)
			}
		}
	}
	for _, r := range roots() {
		if r.Seq == much {
			r.Seq -= 2
		}
		next := r
		next.Seq++
		first, second := put(t, r), put(t, next)
		if root.Place(r) == 1 {
			first, second = second, first
		}
		pickIs(t, first, second, next, api.OK)
	}
}

func TestP16_1And2ShareNothing(t *testing.T) {
	for _, r := range roots() {
		want := saidPage(of(r))
		one, two := put(t, r), put(t, r)
		spoil(one)
		if !bytes.Equal(two, want) {
			t.Errorf("two answers of Put share memory: %x", two)
		}
		if three := put(t, r); !bytes.Equal(three, want) {
			t.Errorf("Put keeps what it answered: %x", three)
		}
	}
}

func TestP16_1And2LeaveWhatTheyAreHanded(t *testing.T) {
	behind := bytes.Repeat([]byte{0xa5}, 88)
	for _, r := range roots() {
		place := root.Place(r)
		room := append(put(t, r), behind...)
		own := bytes.Clone(room)
		for size := range len(room) + 1 {
			root.Get(place, room[:size])
			root.Get(1-place, room[:size])
			root.Get(-1, room[:size])
			root.Pick(room[:size], room[:size])
		}
		if !bytes.Equal(room, own) {
			t.Errorf("Get or Pick changed the page of %v, or the room behind its end", r)
		}
		// What stands in the room behind the end is not read.
		if x, e := root.Get(place, room[:512]); x != r || e != api.OK {
			t.Errorf("Get of the page of %v with room behind it = %v, %v", r, x, e)
		}
	}
}
