package page_test

import (
	"bytes"
	"encoding/binary"
	"hash/crc32"
	"math"
	"slices"
	"testing"

	"stook/api"
	"stook/page"
)

// put: the page, which must be there.
func put(t *testing.T, n int, kind uint8, body []byte) []byte {
	t.Helper()
	b, e := page.Put(n, kind, body)
	if e != api.OK {
		t.Fatalf("Put(%d, %d, %d bytes): %v", n, kind, len(body), e)
	}
	return b
}

// putAs: Put says what the words say.
func putAs(t *testing.T, n int, kind uint8, body []byte) {
	t.Helper()
	want, why := saidPut(n, kind, body)
	if b, e := page.Put(n, kind, body); !bytes.Equal(b, want) || e != why {
		t.Errorf("Put(%d, %d, %d bytes) = %d bytes, %x.., %v, not %d bytes, %x.., %v", n, kind, len(body), len(b), b[:min(16, len(b))], e, len(want), want[:min(16, len(want))], why)
	}
}

// getAs: Get says of the bytes what the words say; and what is read is written as the bytes that were read.
func getAs(t *testing.T, n int, b []byte) {
	t.Helper()
	wantKind, want, why := saidGet(n, b)
	kind, body, e := page.Get(n, b)
	if kind != wantKind || !bytes.Equal(body, want) || e != why {
		t.Errorf("Get(%d, %d bytes, %x..) = %d, %d bytes, %v, not %d, %d bytes, %v", n, len(b), b[:min(16, len(b))], kind, len(body), e, wantKind, len(want), why)
	}
	if e != api.OK {
		return
	}
	if again := put(t, n, kind, body); !bytes.Equal(again, b) {
		t.Errorf("Put of what Get(%d, %x..) tells is %x..", n, b[:16], again[:16])
	}
}

// getRefused: Get tells this error of the bytes, and nothing beside.
func getRefused(t *testing.T, n int, b []byte, why api.Errno) {
	t.Helper()
	if kind, body, e := page.Get(n, b); kind != 0 || len(body) != 0 || e != why {
		t.Errorf("Get(%d, %d bytes, %x..) = %d, %d bytes, %v, not %v", n, len(b), b[:min(16, len(b))], kind, len(body), e, why)
	}
}

func TestP15_1Examples(t *testing.T) {
	b := put(t, 5, 7, []byte("ab"))
	if want := []byte{5, 0, 0, 0, 7, 0, 2, 0, 'a', 'b', 0}; len(b) != 512 || !bytes.Equal(b[4:15], want) {
		t.Errorf("Put(5, 7, ab) = %d bytes, %x", len(b), b)
	}
	if b, e := page.Put(-1, 0, nil); b != nil || e != api.ErrArg {
		t.Errorf("Put(-1, 0, none) = %x, %v", b, e)
	}
	if b, e := page.Put(0, 0, make([]byte, 497)); b != nil || e != api.ErrLimit {
		t.Errorf("Put(0, 0, 497 bytes) = %x, %v", b, e)
	}
}

// The lowest byte stands first, in the sum, in the number and in the body's size.
func TestP15_1WhereThingsStand(t *testing.T) {
	body := (&chance{1}).row(0x0123)
	b := put(t, 0x4567, 0x89, body)
	head := []byte{0x67, 0x45, 0, 0, 0x89, 0, 0x23, 0x01}
	if want := slices.Concat(head, body, make([]byte, 512-12-0x0123)); !bytes.Equal(b[4:], want) {
		t.Errorf("Put = %x, not %x behind the sum", b, want)
	}
	// A page of nothing but noughts behind its sum: that of 508 bytes 0 is ec57a9c3.
	if b := put(t, 0, 0, nil); !bytes.Equal(b, append([]byte{0xc3, 0xa9, 0x57, 0xec}, make([]byte, 508)...)) {
		t.Errorf("Put(0, 0, none) = %x", b)
	}
}

func TestP15_1AsTheWordsSay(t *testing.T) {
	c := &chance{2}
	for size := range 497 {
		putAs(t, c.below(65536), uint8(c.word()), c.row(size))
		putAs(t, 65535, 255, make([]byte, size))
	}
	for n := range 65536 {
		if n%97 == 0 || n < 600 || n > 65000 {
			putAs(t, n, uint8(n), []byte("ab"))
		}
	}
	for kind := range 256 {
		putAs(t, c.below(65536), uint8(kind), c.row(c.below(497)))
	}
	for _, body := range bodies() {
		for _, n := range numbers() {
			putAs(t, n, 9, body)
		}
	}
}

// The number comes ahead of the body's size.
func TestP15_1OfWhatMayNotBe(t *testing.T) {
	for _, n := range notNumbers() {
		for _, size := range []int{0, 1, 496, 497, 512, 65536} {
			if b, e := page.Put(n, 7, make([]byte, size)); b != nil || e != api.ErrArg {
				t.Errorf("Put(%d, 7, %d bytes) = %d bytes, %v", n, size, len(b), e)
			}
		}
	}
	for _, n := range numbers() {
		for _, size := range []int{497, 498, 500, 508, 512, 513, 65535, 65536, 65536 + 2, 1 << 20} {
			if b, e := page.Put(n, 7, make([]byte, size)); b != nil || e != api.ErrLimit {
				t.Errorf("Put(%d, 7, %d bytes) = %d bytes, %v", n, size, len(b), e)
			}
		}
		// As many as may be, whatever room is behind them.
		putAs(t, n, 7, bytes.Repeat([]byte{0xee}, 600)[:496])
		putAs(t, n, 7, bytes.Repeat([]byte{0xee}, 600)[:2])
	}
}

func TestP15_2Examples(t *testing.T) {
	b := put(t, 5, 7, []byte("ab"))
	if kind, body, e := page.Get(5, b); kind != 7 || string(body) != "ab" || e != api.OK {
		t.Errorf("Get(5, Put(5, 7, ab)) = %d, %q, %v", kind, body, e)
	}
	getRefused(t, 6, b, api.ErrForm)
	getRefused(t, 5, make([]byte, 511), api.ErrShort)
	getRefused(t, 5, make([]byte, 513), api.ErrForm)
	getRefused(t, 5, make([]byte, 512), api.ErrSum)
}

// A number that may not be comes ahead of all that is wrong with the bytes.
func TestP15_2OfNumbersThatMayNotBe(t *testing.T) {
	good := put(t, 5, 7, []byte("ab"))
	for _, n := range notNumbers() {
		named := parts{number: uint32(n), kind: 7}.bytes()
		for _, b := range [][]byte{nil, good, named, good[:511], append(bytes.Clone(good), 0), make([]byte, 512)} {
			getRefused(t, n, b, api.ErrArg)
		}
	}
}

// How many bytes there are comes ahead of what they are.
func TestP15_2OfFewerBytesAndOfMore(t *testing.T) {
	for _, p := range pages() {
		for size := range 512 {
			// What stands in the room behind the end is not read.
			getRefused(t, p.n, p.b[:size], api.ErrShort)
		}
		for _, more := range [][]byte{{0}, {1}, make([]byte, 512), p.b} {
			getRefused(t, p.n, slices.Concat(p.b, more), api.ErrForm)
			getRefused(t, p.n, slices.Concat(make([]byte, 512), more), api.ErrForm)
			getRefused(t, p.n, slices.Concat(more, p.b), api.ErrForm)
		}
		room := append(bytes.Clone(p.b), 1, 2, 3)
		getAs(t, p.n, room[:512])
	}
	getRefused(t, 0, nil, api.ErrShort)
	getRefused(t, 0, []byte{}, api.ErrShort)
	getRefused(t, 65535, make([]byte, 1<<16), api.ErrForm)
}

// The sum comes ahead of all else that is wrong with the bytes.
func TestP15_2OfAnotherSum(t *testing.T) {
	castagnoli := crc32.MakeTable(crc32.Castagnoli)
	for _, p := range pages() {
		right := binary.LittleEndian.Uint32(p.b)
		size := binary.LittleEndian.Uint16(p.b[10:])
		for _, wrong := range []uint32{
			^right, right + 1, right - 1, right << 8, right >> 8, 0, math.MaxUint32,
			binary.BigEndian.Uint32(p.b),
			crc32.ChecksumIEEE(p.b[4:]),
			sum(p.b[8:]), sum(p.b[12:]), sum(p.b[12 : 12+size]), sum(p.b[4 : 12+size]), sum(p.b[4:508]),
			crc32.Update(0, castagnoli, append(make([]byte, 4), p.b[4:]...)),
		} {
			b := bytes.Clone(p.b)
			binary.LittleEndian.PutUint32(b, wrong)
			if wrong == right {
				t.Errorf("page %d: %08x is the right sum", p.n, wrong)
				continue
			}
			getRefused(t, p.n, b, api.ErrSum)
			getRefused(t, p.n^1, b, api.ErrSum)
			b[9], b[11], b[511] = 1, 0xff, 1
			getRefused(t, p.n, b, api.ErrSum)
		}
	}
}

// A page of which all but the number is right, told by each other number.
func TestP15_2OfAnotherNumber(t *testing.T) {
	for _, n := range numbers() {
		b := saidPage(n, 7, []byte("ab"))
		getAs(t, n, b)
		for bit := range 16 {
			getRefused(t, n^1<<bit, b, api.ErrForm)
		}
		for bit := range 32 {
			other := parts{number: uint32(n) ^ 1<<bit, kind: 7, size: 2, behind: []byte("ab")}.bytes()
			getRefused(t, n, other, api.ErrForm)
		}
	}
	b := saidPage(0x0102, 0, nil)
	for n := range 65536 {
		if n%61 == 0 || n < 300 || n == 0x0201 {
			getAs(t, n, b)
		}
	}
}

// Bytes whose sum is right, and which are no page's.
func TestP15_2OfWhatIsNoPage(t *testing.T) {
	c := &chance{3}
	for nought := 1; nought < 256; nought++ {
		getRefused(t, 5, parts{number: 5, kind: 7, nought: uint8(nought), size: 2, behind: []byte("ab")}.bytes(), api.ErrForm)
		getRefused(t, 5, parts{number: 5, nought: uint8(nought)}.bytes(), api.ErrForm)
	}
	// More bytes than there may be, and more than there are; a size of which a byte alone were read might be.
	for size := 497; size < 65536; size++ {
		if size < 1100 || size%251 == 0 || size%256 < 2 || size > 65500 {
			getRefused(t, 5, parts{number: 5, kind: 7, size: uint16(size)}.bytes(), api.ErrForm)
			getRefused(t, 5, parts{number: 5, kind: 7, size: uint16(size), behind: c.row(500)}.bytes(), api.ErrForm)
		}
	}
	// A byte that is not 0 behind the body, at each place, also where no body may stand.
	for size := range 497 {
		for _, at := range []int{size, size + 1, (size + 500) / 2, 495, 496, 498, 499} {
			for _, bad := range []byte{1, 0x80, 0xff} {
				if at < size || at > 499 {
					continue
				}
				behind := append(c.row(size), make([]byte, 500-size)...)
				behind[at] = bad
				getRefused(t, 5, parts{number: 5, kind: 7, size: uint16(size), behind: behind}.bytes(), api.ErrForm)
			}
		}
	}
	for at := range 500 {
		behind := make([]byte, 500)
		behind[at] = 1
		getRefused(t, 5, parts{number: 5, behind: behind}.bytes(), api.ErrForm)
	}
}

// Each byte of some pages is each other one: with the sum that was there, and with the sum that there should be.
func TestP15_2AsTheWordsSay(t *testing.T) {
	for _, p := range []struct {
		n    int
		body []byte
	}{{0, nil}, {5, []byte("ab")}, {65535, (&chance{4}).row(496)}, {256, make([]byte, 3)}} {
		b := saidPage(p.n, 7, p.body)
		getAs(t, p.n, b)
		for at := range 512 {
			for change := 1; change < 256; change++ {
				if at > 20 && at < 500 && (at+change)%17 != 0 {
					continue
				}
				near := bytes.Clone(b)
				near[at] ^= byte(change)
				getRefused(t, p.n, near, api.ErrSum)
				getAs(t, p.n, resummed(near))
			}
		}
	}
}

// Rows of few kinds of bytes where the head stands, with right sums.
func TestP15_2OfEachHead(t *testing.T) {
	few := []byte{0, 1, 2, 0xf0, 0xff}
	head := make([]byte, 8)
	heads := 1
	for range head {
		heads *= len(few)
	}
	for k := range heads {
		if k%11 != 0 {
			continue
		}
		for i, rest := 0, k; i < len(head); i, rest = i+1, rest/len(few) {
			head[i] = few[rest%len(few)]
		}
		b := resummed(slices.Concat(make([]byte, 4), head, []byte{1, 2}, make([]byte, 498)))
		getAs(t, int(binary.LittleEndian.Uint16(head)), b)
	}
}

func TestP15_3WhatIsPutIsGot(t *testing.T) {
	c := &chance{6}
	for size := range 497 {
		for _, body := range [][]byte{c.row(size), make([]byte, size), bytes.Repeat([]byte{0xff}, size)} {
			n, kind := c.below(65536), uint8(c.word())
			gotKind, got, e := page.Get(n, put(t, n, kind, body))
			if gotKind != kind || !bytes.Equal(got, body) || e != api.OK {
				t.Errorf("Get of Put(%d, %d, %d bytes) = %d, %d bytes, %v", n, kind, size, gotKind, len(got), e)
			}
		}
	}
	for n := range 65536 {
		if n%89 != 0 && n > 300 && n < 65300 {
			continue
		}
		if kind, body, e := page.Get(n, put(t, n, uint8(n>>8), []byte{1, 0})); kind != uint8(n>>8) || !bytes.Equal(body, []byte{1, 0}) || e != api.OK {
			t.Errorf("Get of Put(%d, ..) = %d, %x, %v", n, kind, body, e)
		}
	}
}

// Of bytes whose sum is right and in which little else is wrong: getAs puts what is got.
func TestP15_3WhatIsGotIsPut(t *testing.T) {
	c := &chance{7}
	got := 0
	for range 20000 {
		p := parts{number: uint32(c.below(3)), kind: uint8(c.word()), size: uint16(c.below(6)), behind: c.row(c.below(6))}
		b := p.bytes()
		if _, _, e := page.Get(1, b); e == api.OK {
			got++
		}
		getAs(t, 1, b)
	}
	if got < 2000 || got > 18000 {
		t.Errorf("%d of 20000 are pages: too few or too many to tell", got)
	}
}

// changes: what up to four bytes that stand side by side may be changed by: each bit alone, all of them, and others.
func changes() []uint32 {
	c := &chance{8}
	l := []uint32{math.MaxUint32, 0xff, 0xff00, 0xff0000, 0xff000000, 0x82f63b78, 0x1edc6f41, 0x80000001}
	for k := range 32 {
		l = append(l, 1<<k)
	}
	for range 20 {
		l = append(l, uint32(c.word()), uint32(c.word())&0xffff, uint32(c.word())&0xffffff)
	}
	return l
}

// changed: the page with four bytes from a place on against these; those that would stand behind its end are left away.
func changed(b []byte, at int, change uint32) []byte {
	near := bytes.Clone(b)
	for i := 0; i < 4 && at+i < len(b); i++ {
		near[at+i] ^= byte(change >> (8 * i))
	}
	return near
}

func TestP15_3APageThatIsChanged(t *testing.T) {
	for i, p := range pages() {
		for at := range 512 {
			for k, change := range changes() {
				if (at+k+i)%7 != 0 && i > 1 {
					continue
				}
				near := changed(p.b, at, change)
				if bytes.Equal(near, p.b) {
					continue
				}
				if kind, body, e := page.Get(p.n, near); e != api.ErrSum || kind != 0 || len(body) != 0 {
					t.Fatalf("page %d, changed at %d by %x: %d, %d bytes, %v", p.n, at, change, kind, len(body), e)
				}
			}
		}
	}
}

// The sum stands ahead of what it is the sum of, so four bytes side by side may be some of both, of which the sums' own
// rule (four bytes within what is summed) says nothing. The last bytes of the sum are made right for each change of the
// number's first ones: what is left wrong are the sum's bytes ahead, or the number.
func TestP15_3AChangeOverTheSumAndTheNumber(t *testing.T) {
	b := saidPage(5, 7, []byte("ab"))
	for of := 1; of <= 3; of++ { // so many bytes of the number
		for change := 1; change < 1<<(8*of); change++ {
			if change > 1<<16 && change%251 != 0 {
				continue
			}
			near := changed(b, 4, uint32(change))
			right := resummed(near)
			copy(near[of:4], right[of:4])
			if _, _, e := page.Get(5, near); e != api.ErrSum && e != api.ErrForm {
				t.Fatalf("the number against %x, the last %d bytes of the sum made right: %v", change, 4-of, e)
			}
			// Were the whole sum right, it would be another page's.
			if change%101 == 0 {
				getRefused(t, 5, right, api.ErrForm)
			}
		}
	}
}

func TestP15_3Noughts(t *testing.T) {
	noughts := make([]byte, 512)
	for n := range 65536 {
		if n%101 == 0 || n < 300 || n > 65300 {
			getRefused(t, n, noughts, api.ErrSum)
		}
	}
}

// spoil: all that the list has room for is another one now.
func spoil(l []byte) {
	l = l[:cap(l)]
	for i := range l {
		l[i] ^= 0xff
	}
}

func TestP15_1And2ShareNothing(t *testing.T) {
	for _, body := range [][]byte{nil, {}, []byte("ab"), (&chance{9}).row(496)} {
		own := bytes.Clone(body)
		want := saidPage(5, 7, body)
		one, two := put(t, 5, 7, own), put(t, 5, 7, own)
		spoil(one)
		if !bytes.Equal(two, want) {
			t.Errorf("two answers of Put share memory: %x", two)
		}
		_, first, _ := page.Get(5, two)
		_, second, _ := page.Get(5, two)
		spoil(first)
		if !bytes.Equal(second, body) || !bytes.Equal(two, want) {
			t.Errorf("an answer of Get shares memory with another one, or with the bytes: %x", second)
		}
		spoil(two)
		if !bytes.Equal(second, body) {
			t.Errorf("an answer of Get shares memory with the bytes: %x", second)
		}
		three := put(t, 5, 7, own)
		spoil(own)
		if !bytes.Equal(three, want) {
			t.Errorf("an answer of Put shares memory with the body: %x", three)
		}
	}
}

func TestP15_1And2LeaveWhatTheyAreHanded(t *testing.T) {
	room := (&chance{10}).row(600)
	for size := range 601 {
		page.Put(5, 7, room[:size])
		page.Put(-5, 7, room[:size])
	}
	if !bytes.Equal(room, (&chance{10}).row(600)) {
		t.Errorf("Put changed the body, or the room behind its end")
	}
	for _, p := range pages() {
		room := append(bytes.Clone(p.b), room[:88]...)
		own := bytes.Clone(room)
		for size := range 601 {
			page.Get(p.n, room[:size])
			page.Get(p.n^1, room[:size])
			page.Get(-1, room[:size])
		}
		if !bytes.Equal(room, own) {
			t.Errorf("Get changed the page %d, or the room behind its end", p.n)
		}
	}
}
