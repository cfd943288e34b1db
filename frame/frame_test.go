package frame_test

import (
	"bytes"
	"encoding/binary"
	"hash/crc32"
	"math"
	"slices"
	"testing"

	"stook/api"
	"stook/frame"
)

// row: size bytes without a pattern.
func row(seed uint32, size int) []byte {
	b := make([]byte, size)
	for i := range b {
		seed = seed*1664525 + 1013904223
		b[i] = byte(seed >> 21)
	}
	return b
}

// saidSummed: a row and its sum behind it, by the library's own sum.
func saidSummed(counted []byte) []byte {
	sum := crc32.Checksum(counted, crc32.MakeTable(crc32.Castagnoli))
	return binary.LittleEndian.AppendUint32(bytes.Clone(counted), sum)
}

// saidPut: a payload's frame, as the words say it.
func saidPut(p []byte) []byte {
	return saidSummed(append(binary.AppendUvarint(nil, uint64(len(p))), p...))
}

// saidCount: the number at the beginning of b, how many bytes it has, and why there is none.
func saidCount(b []byte) (count uint64, size int, e api.Errno) {
	count, size = binary.Uvarint(b)
	switch {
	case size == 0:
		return 0, 0, api.ErrShort
	case size < 0 || size > 1 && b[size-1] == 0:
		return 0, 0, api.ErrForm
	}
	return count, size, api.OK
}

// saidGet: what P3.2 says, clause by clause, with the words of the layers below.
func saidGet(b []byte, at int) ([]byte, int, api.Errno) {
	if at < 0 || at > len(b) {
		return nil, 0, api.ErrArg
	}
	rest := b[at:]
	count, size, e := saidCount(rest)
	switch {
	case e != api.OK:
		return nil, 0, e
	case count > 65536:
		return nil, 0, api.ErrLimit
	case len(rest) < size+int(count)+4:
		return nil, 0, api.ErrShort
	}
	end := size + int(count)
	if !bytes.Equal(rest[:end+4], saidSummed(rest[:end])) {
		return nil, 0, api.ErrSum
	}
	return rest[size:end], at + end + 4, api.OK
}

// saidFollow: what P3.3 says: the payloads, the place at which it ends, and why.
func saidFollow(b []byte) (l [][]byte, end int, e api.Errno) {
	for end < len(b) {
		p, next, e := saidGet(b, end)
		if e != api.OK {
			return l, end, e
		}
		l, end = append(l, p), next
	}
	return l, end, api.OK
}

// put: the payload's frame, which must be there.
func put(t *testing.T, p []byte) []byte {
	t.Helper()
	b, e := frame.Put(p)
	if e != api.OK {
		t.Fatalf("Put of %d bytes: %v", len(p), e)
	}
	return b
}

// stream: the frames of the payloads, one behind the other.
func stream(t *testing.T, l ...[]byte) []byte {
	t.Helper()
	var b []byte
	for _, p := range l {
		b = append(b, put(t, p)...)
	}
	return b
}

// payloads: some of each length at which something changes.
func payloads() [][]byte {
	l := [][]byte{nil, {}, {0}, {0xff}, {0x80, 0}, []byte("abc"), bytes.Repeat([]byte{0}, 32), bytes.Repeat([]byte{0xff}, 40)}
	for _, size := range []int{2, 4, 5, 126, 127, 128, 129, 300, 496, 4096, 16383, 16384, 65535, api.MaxFrame} {
		l = append(l, row(uint32(size), size))
	}
	return l
}

// sameLists: whether both have the same payloads.
func sameLists(a, b [][]byte) bool {
	return slices.EqualFunc(a, b, bytes.Equal)
}

// nineFF: nine bytes ff and those that follow them.
func nineFF(last ...byte) []byte {
	return append(bytes.Repeat([]byte{0xff}, 9), last...)
}

// hostile: bytes that are no frame, each with why.
func hostile() []struct {
	b []byte
	e api.Errno
} {
	return []struct {
		b []byte
		e api.Errno
	}{
		{[]byte{0x80}, api.ErrShort},
		{[]byte{0x80, 0}, api.ErrForm},
		{saidSummed([]byte{0x80, 0}), api.ErrForm}, // no payload, told in a form that is not the shortest
		{saidSummed([]byte{0x83, 0, 'a', 'b', 'c'}), api.ErrForm},
		{nineFF(), api.ErrShort},
		{nineFF(2), api.ErrForm},
		{nineFF(0x80, 1), api.ErrForm},
		{nineFF(1), api.ErrLimit}, // the greatest number
		{binary.AppendUvarint(nil, math.MaxInt64), api.ErrLimit},
		{binary.AppendUvarint(nil, math.MaxInt64+1), api.ErrLimit},
		{binary.AppendUvarint(nil, 65537), api.ErrLimit}, // the limit is named ahead of the bytes' end
		{saidSummed(append(binary.AppendUvarint(nil, 65537), row(1, 65537)...)), api.ErrLimit},
		{binary.AppendUvarint(nil, 65536), api.ErrShort},
		{[]byte{0}, api.ErrShort},
		{[]byte{0, 0, 0, 0}, api.ErrShort},
		{[]byte{0, 0, 0, 0, 0}, api.ErrSum},
		{[]byte{3, 'c'}, api.ErrShort},
		{[]byte{3, 'a', 'b', 'c'}, api.ErrShort},
		{[]byte{3, 'a', 'b', 'c', 0xff, 0xff, 0xff}, api.ErrShort}, // too few bytes, whatever they are
		{[]byte{3, 'a', 'b', 'c', 0xff, 0xff, 0xff, 0xff}, api.ErrSum},
		{saidPut([]byte("abc"))[:7], api.ErrShort},
	}
}

func TestP3_1PutOfExamples(t *testing.T) {
	for _, c := range []struct {
		p    string
		want []byte
	}{
		{"", []byte{0, 0x51, 0x53, 0x7d, 0x52}},
		{"abc", []byte{3, 'a', 'b', 'c', 0x33, 0x5e, 0x6a, 0x7c}},
	} {
		b, e := frame.Put([]byte(c.p))
		if !bytes.Equal(b, c.want) || e != api.OK {
			t.Errorf("Put(%q) = %x, %v, not %x", c.p, b, e, c.want)
		}
	}
}

func TestP3_1PutAndSizeAsTheWordsSay(t *testing.T) {
	for _, p := range payloads() {
		want := saidPut(p)
		if b, e := frame.Put(p); !bytes.Equal(b, want) || e != api.OK {
			t.Errorf("Put of %d bytes: %d bytes, %v, or other ones than there should be", len(p), len(b), e)
		}
		if size := frame.Size(len(p)); size != len(want) {
			t.Errorf("Size(%d) = %d, not %d", len(p), size, len(want))
		}
	}
	if nilFrame := put(t, nil); !bytes.Equal(nilFrame, put(t, []byte{})) {
		t.Errorf("Put(nil) = %x", nilFrame)
	}
}

func TestP3_1PutAboveTheLimit(t *testing.T) {
	for _, size := range []int{api.MaxFrame + 1, api.MaxFrame + 2, 2 * api.MaxFrame, 1 << 20} {
		if b, e := frame.Put(make([]byte, size)); len(b) != 0 || e != api.ErrLimit {
			t.Errorf("Put of %d bytes: %d bytes, %v", size, len(b), e)
		}
	}
}

func TestP3_1SizeOfEachNumber(t *testing.T) {
	for n := range api.MaxFrame + 1 {
		if size, want := frame.Size(n), len(binary.AppendUvarint(nil, uint64(n)))+n+4; size != want {
			t.Fatalf("Size(%d) = %d, not %d", n, size, want)
		}
	}
	for _, n := range []int{-1, -2, -128, math.MinInt32, math.MinInt, math.MinInt + 1, api.MaxFrame + 1, api.MaxFrame + 2, math.MaxInt32, 1 << 32, math.MaxInt - 1, math.MaxInt} {
		if size := frame.Size(n); size != 0 {
			t.Errorf("Size(%d) = %d", n, size)
		}
	}
}

func TestP3_2GetOfExamplesAndEdges(t *testing.T) {
	abc, long := saidPut([]byte("abc")), saidPut(row(3, api.MaxFrame))
	another := bytes.Clone(abc)
	another[7] ^= 0xff
	behind := slices.Concat([]byte{9, 0x80}, abc, []byte{0x80})
	for i, c := range []struct {
		b    []byte
		at   int
		want []byte
		next int
		e    api.Errno
	}{
		{abc, 0, []byte("abc"), 8, api.OK},
		{behind, 2, []byte("abc"), 10, api.OK},
		{saidPut(nil), 0, nil, 5, api.OK},
		{long, 0, row(3, api.MaxFrame), len(long), api.OK},
		{abc[:7], 0, nil, 0, api.ErrShort}, // the room behind the end does not count
		{long[:len(long)-1], 0, nil, 0, api.ErrShort},
		{another, 0, nil, 0, api.ErrSum},
		{abc, 8, nil, 0, api.ErrShort},
		{abc, 9, nil, 0, api.ErrArg},
		{abc[:7], 8, nil, 0, api.ErrArg},
		{abc, -1, nil, 0, api.ErrArg},
		{abc, math.MaxInt, nil, 0, api.ErrArg},
		{abc, math.MinInt, nil, 0, api.ErrArg},
		{nil, 0, nil, 0, api.ErrShort},
		{nil, 1, nil, 0, api.ErrArg},
		{nil, -1, nil, 0, api.ErrArg},
	} {
		if p, next, e := frame.Get(c.b, c.at); !bytes.Equal(p, c.want) || next != c.next || e != c.e {
			t.Errorf("%d: Get of %d bytes at %d: %d bytes, %d, %v", i, len(c.b), c.at, len(p), next, e)
		}
	}
}

func TestP3_2GetOfHostileBytes(t *testing.T) {
	for i, c := range hostile() {
		for _, ahead := range [][]byte{nil, {0}, {0x80, 0x80}, saidPut([]byte("a"))} {
			b := slices.Concat(ahead, c.b)
			if p, next, e := frame.Get(b, len(ahead)); len(p) != 0 || next != 0 || e != c.e {
				t.Errorf("%d: Get at %d: %x, %d, %v, not %v", i, len(ahead), p, next, e, c.e)
			}
		}
	}
}

func TestP3_2GetWithASumThatIsNotTheRows(t *testing.T) {
	p := []byte("abc")
	whole := saidPut(p)
	counted, sum := whole[:4], whole[4:]
	turned := bytes.Clone(sum)
	slices.Reverse(turned)
	table := crc32.MakeTable(crc32.Castagnoli)
	for i, wrong := range [][]byte{
		turned,
		{0, 0, 0, 0},
		{0xff, 0xff, 0xff, 0xff},
		binary.LittleEndian.AppendUint32(nil, crc32.Checksum(p, table)), // of the payload alone
		binary.LittleEndian.AppendUint32(nil, crc32.ChecksumIEEE(counted)),
		binary.LittleEndian.AppendUint32(nil, ^crc32.Checksum(counted, table)),
	} {
		if p, next, e := frame.Get(slices.Concat(counted, wrong), 0); len(p) != 0 || next != 0 || e != api.ErrSum {
			t.Errorf("%d: Get = %x, %d, %v", i, p, next, e)
		}
	}
}

func TestP3_2GetAsThePromiseSays(t *testing.T) {
	b := slices.Concat(saidPut([]byte("abc")), saidPut(nil), saidPut([]byte{0, 0x80, 0}), saidPut(row(5, 130)), []byte{3, 'c'})
	few := []byte{0, 1, 3, 0x7f, 0x80, 0xff}
	for place := range b {
		for _, c := range few {
			spoilt := bytes.Clone(b)
			spoilt[place] = c
			for at := -1; at <= len(b)+1; at++ {
				p, next, e := frame.Get(spoilt, at)
				if wp, wnext, we := saidGet(spoilt, at); !bytes.Equal(p, wp) || next != wnext || e != we {
					t.Fatalf("Get(%x, %d) = %x, %d, %v, not %x, %d, %v", spoilt, at, p, next, e, wp, wnext, we)
				}
			}
		}
	}
}

func TestP3_3ScanAndAllOfExamples(t *testing.T) {
	a, b := []byte("a"), []byte("b")
	for i, c := range []struct {
		b   []byte
		l   [][]byte
		end int
		e   api.Errno
	}{
		{nil, nil, 0, api.OK},
		{[]byte{}, nil, 0, api.OK},
		{stream(t, a, b), [][]byte{a, b}, 12, api.OK},
		{stream(t, a, b)[:6], [][]byte{a}, 6, api.OK}, // the room behind the end does not count
		{append(stream(t, a, b), 3, 'c'), [][]byte{a, b}, 12, api.ErrShort},
		{stream(t, nil, nil, a, nil), [][]byte{nil, nil, a, nil}, 21, api.OK},
		{append([]byte{7}, stream(t, a, b)...), nil, 0, api.ErrSum},
	} {
		if l, end := frame.Scan(c.b); !sameLists(l, c.l) || end != c.end {
			t.Errorf("%d: Scan = %q, %d", i, l, end)
		}
		want := c.l
		if c.e != api.OK {
			want = nil
		}
		if l, e := frame.All(c.b); !sameLists(l, want) || e != c.e {
			t.Errorf("%d: All = %q, %v", i, l, e)
		}
	}
}

func TestP3_3ScanAndAllOfAllPayloads(t *testing.T) {
	b := stream(t, payloads()...)
	if l, end := frame.Scan(b); !sameLists(l, payloads()) || end != len(b) {
		t.Errorf("Scan of all payloads: %d of them, %d", len(l), end)
	}
	if l, e := frame.All(b); !sameLists(l, payloads()) || e != api.OK {
		t.Errorf("All of all payloads: %d of them, %v", len(l), e)
	}
}

func TestP3_3TheFirstErrorEndsIt(t *testing.T) {
	ahead := [][]byte{[]byte("one"), nil, row(4, 200)}
	good := stream(t, ahead...)
	// What stands behind it would be refused otherwise; behind bytes that are too short nothing may stand.
	behinds := [][]byte{nil, {0x80, 0}, nineFF(1), stream(t, []byte("x"))}
	for i, c := range hostile() {
		for _, behind := range behinds {
			if c.e == api.ErrShort && len(behind) > 0 {
				continue
			}
			b := slices.Concat(good, c.b, behind)
			if l, end := frame.Scan(b); !sameLists(l, ahead) || end != len(good) {
				t.Errorf("%d: Scan: %d payloads, %d", i, len(l), end)
			}
			if l, e := frame.All(b); len(l) != 0 || e != c.e {
				t.Errorf("%d: All: %d payloads, %v, not %v", i, len(l), e, c.e)
			}
		}
	}
}

func TestP3_3ScanAndAllAsThePromiseSays(t *testing.T) {
	b := slices.Concat(saidPut([]byte("ab")), saidPut(nil), saidPut(row(6, 130)), saidPut([]byte{0}))
	for place := range b {
		for _, c := range []byte{0, 1, 2, 0x7f, 0x80, 0xff} {
			spoilt := bytes.Clone(b)
			spoilt[place] = c
			wl, wend, we := saidFollow(spoilt)
			if l, end := frame.Scan(spoilt); !sameLists(l, wl) || end != wend {
				t.Fatalf("Scan(%x): %d payloads, %d, not %d, %d", spoilt, len(l), end, len(wl), wend)
			}
			if we != api.OK {
				wl = nil
			}
			if l, e := frame.All(spoilt); !sameLists(l, wl) || e != we {
				t.Fatalf("All(%x): %d payloads, %v, not %d, %v", spoilt, len(l), e, len(wl), we)
			}
		}
	}
}

func TestP3_4WhatIsPutIsGot(t *testing.T) {
	for _, p := range payloads() {
		for _, ahead := range [][]byte{nil, {0}, {0x80, 0xff}} {
			for _, behind := range [][]byte{nil, {0}, {0xff, 0x80}} {
				b := slices.Concat(ahead, put(t, p), behind)
				got, next, e := frame.Get(b, len(ahead))
				if !bytes.Equal(got, p) || next != len(b)-len(behind) || e != api.OK {
					t.Errorf("Get of %d bytes at %d: %d bytes, %d, %v", len(p), len(ahead), len(got), next, e)
				}
			}
		}
	}
}

func TestP3_4WhatIsGotIsPut(t *testing.T) {
	b := stream(t, []byte("ab"), nil, []byte{0, 0x51, 0x53, 0x7d, 0x52}, row(8, 128)) // a frame within a frame too
	for at := range len(b) + 1 {
		if p, next, e := frame.Get(b, at); e == api.OK && !bytes.Equal(put(t, p), b[at:next]) {
			t.Errorf("Get at %d: %x, which is not what stands there", at, p)
		}
	}
}

func TestP3_4AFrameThatIsCutAnywhere(t *testing.T) {
	ahead := [][]byte{[]byte("a"), nil, row(9, 150)}
	good := stream(t, ahead...)
	for _, p := range payloads() {
		whole := put(t, p)
		for cut := range whole {
			if got, next, e := frame.Get(whole[:cut:cut], 0); len(got) != 0 || next != 0 || e != api.ErrShort {
				t.Fatalf("Get of %d bytes cut at %d: %d bytes, %d, %v", len(p), cut, len(got), next, e)
			}
			if cut > 600 && cut < len(whole)-8 { // no other kind of cut is there
				continue
			}
			b := slices.Concat(good, whole[:cut])
			if l, end := frame.Scan(b); !sameLists(l, ahead) || end != len(good) {
				t.Fatalf("Scan, with %d bytes cut at %d behind: %d payloads, %d", len(p), cut, len(l), end)
			}
		}
	}
}

// changes: what up to four bytes that stand side by side may be changed by: each bit alone, all of them, and others.
func changes() []uint32 {
	l := []uint32{math.MaxUint32, 0xff, 0xff00, 0xff0000, 0xff000000, 0x82f63b78, 0x1edc6f41, 0x80000001}
	for k := range 32 {
		l = append(l, 1<<k)
	}
	for seed := uint32(1); len(l) < 100; seed = seed*1664525 + 1013904223 {
		l = append(l, seed*2654435761)
	}
	return l
}

// changed: b with up to four bytes from a place on changed; false, where that changes none of them, or there are fewer.
func changed(b []byte, at int, change uint32) ([]byte, bool) {
	near := bytes.Clone(b)
	for i := range 4 {
		c := byte(change >> (8 * i))
		if c != 0 && at+i >= len(b) {
			return nil, false
		}
		if c != 0 {
			near[at+i] ^= c
		}
	}
	return near, true
}

func TestP3_4AFrameThatIsChanged(t *testing.T) {
	for _, p := range payloads() {
		whole := put(t, p)
		first := len(whole) - len(p) - 4
		for at := first; at < len(whole); at++ {
			if len(p) > 600 && at > first && at < len(whole)-9 { // the long ones at their ends alone
				continue
			}
			for i, change := range changes() {
				if len(p) > 600 && i%10 > 0 {
					continue
				}
				near, some := changed(whole, at, change)
				if !some {
					continue
				}
				if got, next, e := frame.Get(near, 0); len(got) != 0 || next != 0 || e != api.ErrSum {
					t.Fatalf("Get of %d bytes, changed at %d by %x: %d bytes, %d, %v", len(p), at, change, len(got), next, e)
				}
			}
		}
	}
}

func TestP3_4EachChangeOfAByte(t *testing.T) {
	whole := put(t, []byte("abc"))
	for at := 1; at < len(whole); at++ {
		for c := 1; c < 256; c++ {
			near := bytes.Clone(whole)
			near[at] ^= byte(c)
			if _, _, e := frame.Get(near, 0); e != api.ErrSum {
				t.Errorf("Get(%x) = %v", near, e)
			}
		}
	}
}

func TestP3_4ScanWithMoreBehind(t *testing.T) {
	whole := stream(t, []byte("ab"), nil, row(2, 130), []byte{0}, []byte("abc"))
	spoilt := bytes.Clone(whole)
	spoilt[len(whole)-20] ^= 1
	for _, b := range [][]byte{whole, spoilt, append(bytes.Clone(whole), 0x80, 0)} {
		more, farthest := frame.Scan(b)
		for cut := range len(b) + 1 {
			l, end := frame.Scan(b[:cut:cut])
			if len(l) > len(more) || !sameLists(l, more[:len(l)]) || end > farthest {
				t.Errorf("cut at %d: %d payloads, %d, that are not told of all", cut, len(l), end)
			}
		}
	}
}

// spoil: writes over a list and over the room behind its end.
func spoil(b []byte) {
	b = b[:cap(b)]
	for i := range b {
		b[i] = 'x'
	}
}

func TestMemoryOfAnswersIsNew(t *testing.T) {
	was := stream(t, []byte("abc"), []byte("de"), nil, []byte("f"))
	b := bytes.Clone(was)
	one, _, _ := frame.Get(b, 0)
	again, _, _ := frame.Get(b, 0)
	spoil(one)
	scanned, _ := frame.Scan(b)
	spoil(scanned[0])
	spoil(scanned[2])
	all, _ := frame.All(b)
	if string(again) != "abc" || string(scanned[1]) != "de" || string(scanned[3]) != "f" || !bytes.Equal(b, was) {
		t.Errorf("answers share memory: %q, %q, %x", again, scanned, b)
	}
	spoil(b)
	if string(again) != "abc" || !sameLists(all, [][]byte{[]byte("abc"), []byte("de"), nil, []byte("f")}) {
		t.Errorf("answers share memory with what they were read of: %q, %q", again, all)
	}
}

func TestMemoryOfArgumentsStays(t *testing.T) {
	was := stream(t, []byte("abc"), []byte("de"))
	b := bytes.Clone(was)
	for cut := range len(b) + 1 {
		frame.Get(b[:cut], 0)
		frame.Scan(b[:cut])
		frame.All(b[:cut])
		made, again := put(t, b[:cut]), put(t, b[:cut])
		spoil(made)
		if !bytes.Equal(again, saidPut(b[:cut])) {
			t.Errorf("two answers of Put share memory")
		}
	}
	if !bytes.Equal(b, was) {
		t.Errorf("an argument, or the room behind its end, changed: %x", b)
	}
}
