package leb_test

import (
	"bytes"
	"math"
	"slices"
	"strconv"
	"strings"
	"testing"

	"stook/api"
	"stook/leb"
)

const greatest = math.MaxUint64

// nineFF: nine bytes ff and those that follow them.
func nineFF(last ...byte) []byte {
	return append(bytes.Repeat([]byte{0xff}, 9), last...)
}

// edges: the numbers at which something changes, and their neighbours.
func edges() []uint64 {
	l := []uint64{0, 1, 2, 5, 126, 127, 128, 129, 255, 256, 300, 16383, 16384, 65535, 65536, 1048575, 1<<32 - 1, 1 << 32, math.MaxInt64, 1 << 63, greatest - 1, greatest}
	for k := 1; k < 64; k++ {
		l = append(l, 1<<k-1, 1<<k, 1<<k+1)
	}
	slices.Sort(l)
	return slices.Compact(l)
}

// saidPut: a number's bytes as the words say them, from its bits as a text.
func saidPut(n uint64) []byte {
	bits := strconv.FormatUint(n, 2)
	var b []byte
	for len(bits) > 7 {
		cut := len(bits) - 7
		group, _ := strconv.ParseUint(bits[cut:], 2, 8)
		b = append(b, byte(group)+128)
		bits = bits[:cut]
	}
	last, _ := strconv.ParseUint(bits, 2, 8)
	return append(b, byte(last))
}

// saidGet: what P1.2 says, clause by clause.
func saidGet(b []byte, at int) (uint64, int, api.Errno) {
	if at < 0 || at > len(b) {
		return 0, 0, api.ErrArg
	}
	rest := b[at:min(len(b), at+10)]
	last := slices.IndexFunc(rest, func(c byte) bool { return c < 128 })
	if last < 0 && len(rest) < 10 {
		return 0, 0, api.ErrShort
	}
	if last < 0 || last == 9 && rest[9] > 1 || last > 0 && rest[last] == 0 {
		return 0, 0, api.ErrForm
	}
	bits := ""
	for _, c := range rest[:last+1] {
		group := strconv.FormatUint(uint64(c%128), 2)
		bits = strings.Repeat("0", 7-len(group)) + group + bits
	}
	n, err := strconv.ParseUint(bits, 2, 64)
	if err != nil {
		panic(err)
	}
	return n, at + last + 1, api.OK
}

// eachShort: all rows of up to two bytes, and those of three and four of bytes that matter.
func eachShort(yield func([]byte)) {
	yield(nil)
	for i := range 256 {
		yield([]byte{byte(i)})
		for j := range 256 {
			yield([]byte{byte(i), byte(j)})
		}
	}
	few := []byte{0, 1, 2, 3, 0x7f, 0x80, 0x81, 0x82, 0xff}
	for _, a := range few {
		for _, b := range few {
			for _, c := range few {
				yield([]byte{a, b, c})
				for _, d := range few {
					yield([]byte{a, b, c, d})
				}
			}
		}
	}
}

// eachLong: rows of up to thirteen bytes whose end is about where a number's end must be.
func eachLong(yield func([]byte)) {
	few := []byte{0, 1, 2, 3, 0x7f, 0x80, 0x81, 0x82, 0xff}
	for size := 6; size <= 10; size++ {
		for _, fill := range []byte{0x80, 0xaa, 0xff} {
			for _, a := range few {
				for _, b := range few {
					for _, c := range few {
						yield(append(bytes.Repeat([]byte{fill}, size), a, b, c))
					}
				}
			}
		}
	}
}

func TestP1_1PutAndLenOfExamples(t *testing.T) {
	for _, c := range []struct {
		n    uint64
		want []byte
	}{
		{0, []byte{0}},
		{1, []byte{1}},
		{127, []byte{0x7f}},
		{128, []byte{0x80, 1}},
		{300, []byte{0xac, 2}},
		{16383, []byte{0xff, 0x7f}},
		{16384, []byte{0x80, 0x80, 1}},
		{math.MaxInt64, append(bytes.Repeat([]byte{0xff}, 8), 0x7f)},
		{1 << 63, append(bytes.Repeat([]byte{0x80}, 9), 1)},
		{greatest, nineFF(1)},
	} {
		if b := leb.Put(c.n); !bytes.Equal(b, c.want) {
			t.Errorf("Put(%d) = %x, not %x", c.n, b, c.want)
		}
		if size := leb.Len(c.n); size != len(c.want) {
			t.Errorf("Len(%d) = %d, not %d", c.n, size, len(c.want))
		}
	}
}

func TestP1_1PutAndLenAsTheWordsSay(t *testing.T) {
	check := func(n uint64) {
		want := saidPut(n)
		if b := leb.Put(n); !bytes.Equal(b, want) {
			t.Errorf("Put(%d) = %x, not %x", n, b, want)
		}
		if size := leb.Len(n); size != len(want) {
			t.Errorf("Len(%d) = %d, not %d", n, size, len(want))
		}
	}
	for n := range uint64(20000) {
		check(n)
	}
	for _, n := range edges() {
		check(n)
	}
}

func TestP1_2GetOfExamplesAndEdges(t *testing.T) {
	two := []byte{0xac, 2}
	for i, c := range []struct {
		b    []byte
		at   int
		n    uint64
		next int
		e    api.Errno
	}{
		{two, 0, 300, 2, api.OK},
		{two, 1, 2, 2, api.OK},
		{two, 2, 0, 0, api.ErrShort},
		{two, 3, 0, 0, api.ErrArg},
		{two, -1, 0, 0, api.ErrArg},
		{two, math.MaxInt, 0, 0, api.ErrArg},
		{two, math.MinInt, 0, 0, api.ErrArg},
		{two[:1], 2, 0, 0, api.ErrArg}, // the room behind the end does not count
		{two[:1], 0, 0, 0, api.ErrShort},
		{nil, 0, 0, 0, api.ErrShort},
		{nil, 1, 0, 0, api.ErrArg},
		{nil, -1, 0, 0, api.ErrArg},
		{[]byte{0}, 0, 0, 1, api.OK},
		{[]byte{0, 0}, 0, 0, 1, api.OK},
		{[]byte{0x7f, 0xff}, 0, 127, 1, api.OK},
		{[]byte{0x80, 0}, 0, 0, 0, api.ErrForm},
		{[]byte{0x80, 0x80, 0}, 0, 0, 0, api.ErrForm},
		{[]byte{0xff, 0}, 0, 0, 0, api.ErrForm},
		{[]byte{0x80}, 0, 0, 0, api.ErrShort},
		{nineFF(), 0, 0, 0, api.ErrShort},
		{nineFF(0), 0, 0, 0, api.ErrForm},
		{nineFF(1), 0, greatest, 10, api.OK},
		{nineFF(2), 0, 0, 0, api.ErrForm},
		{nineFF(0x7f), 0, 0, 0, api.ErrForm},
		{nineFF(0x80), 0, 0, 0, api.ErrForm},
		{nineFF(0x81), 0, 0, 0, api.ErrForm},
		{nineFF(0x81, 0), 0, 0, 0, api.ErrForm},
		{nineFF(0xff, 1), 0, 0, 0, api.ErrForm},
		{nineFF(1, 0xff), 0, greatest, 10, api.OK},
		{nineFF(1), 1, 1<<57 - 1, 10, api.OK},
	} {
		if n, next, e := leb.Get(c.b, c.at); n != c.n || next != c.next || e != c.e {
			t.Errorf("%d: Get(%x, %d) = %d, %d, %v", i, c.b, c.at, n, next, e)
		}
	}
}

func TestP1_2GetAsThePromiseSays(t *testing.T) {
	check := func(b []byte) {
		for at := -1; at <= len(b)+1; at++ {
			n, next, e := leb.Get(b, at)
			if wn, wnext, we := saidGet(b, at); n != wn || next != wnext || e != we {
				t.Fatalf("Get(%x, %d) = %d, %d, %v, not %d, %d, %v", b, at, n, next, e, wn, wnext, we)
			}
		}
	}
	eachShort(check)
	eachLong(check)
}

func TestP1_3PutRow(t *testing.T) {
	for _, size := range []int{0, 1, 2, 127, 128, 300, 16383, 16384, 65536} {
		b := bytes.Repeat([]byte{0xa5}, size)
		want := append(saidPut(uint64(size)), b...)
		if row := leb.PutRow(b); !bytes.Equal(row, want) {
			t.Errorf("PutRow of %d bytes is wrong: %d bytes", size, len(row))
		}
	}
	if row := leb.PutRow(nil); !bytes.Equal(row, []byte{0}) {
		t.Errorf("PutRow(nil) = %x", row)
	}
}

func TestP1_3GetRowOfExamplesAndEdges(t *testing.T) {
	ab := []byte{2, 'a', 'b'}
	behind := []byte{9, 9, 2, 'a', 'b', 9}
	maxInt := leb.Put(math.MaxInt)
	overInt := leb.Put(math.MaxInt + 1)
	for i, c := range []struct {
		b        []byte
		at, most int
		want     string
		next     int
		e        api.Errno
	}{
		{ab, 0, 2, "ab", 3, api.OK},
		{ab, 0, 3, "ab", 3, api.OK},
		{ab, 0, math.MaxInt, "ab", 3, api.OK},
		{ab, 0, 1, "", 0, api.ErrLimit},
		{ab, 0, 0, "", 0, api.ErrLimit},
		{ab, 0, -1, "", 0, api.ErrLimit},
		{ab, 0, math.MinInt, "", 0, api.ErrLimit},
		{behind, 2, 2, "ab", 5, api.OK},
		{[]byte{2, 'a'}, 0, 9, "", 0, api.ErrShort},
		{[]byte{2}, 0, 9, "", 0, api.ErrShort},
		{ab[:2], 0, 9, "", 0, api.ErrShort},
		{[]byte{0}, 0, -1, "", 0, api.ErrLimit},
		{[]byte{0}, 0, 0, "", 1, api.OK},
		{[]byte{0, 7}, 0, 0, "", 1, api.OK},
		{[]byte{2, 'a'}, 0, 1, "", 0, api.ErrLimit}, // the limit is named ahead of the bytes' end
		{nil, 0, 9, "", 0, api.ErrShort},
		{nil, 0, -1, "", 0, api.ErrShort}, // Get's error is named ahead of the limit
		{[]byte{0x80}, 0, -1, "", 0, api.ErrShort},
		{[]byte{0x80, 0}, 0, -1, "", 0, api.ErrForm},
		{nineFF(2), 0, 9, "", 0, api.ErrForm},
		{ab, 3, 9, "", 0, api.ErrShort},
		{ab, 4, 9, "", 0, api.ErrArg},
		{ab, -1, 9, "", 0, api.ErrArg},
		{ab, math.MaxInt, -1, "", 0, api.ErrArg},
		{nineFF(1), 0, math.MaxInt, "", 0, api.ErrLimit},
		{nineFF(1), 0, -1, "", 0, api.ErrLimit}, // most is no great number without a sign
		{overInt, 0, math.MaxInt, "", 0, api.ErrLimit},
		{maxInt, 0, math.MaxInt, "", 0, api.ErrShort},
		{append([]byte{7}, maxInt...), 1, math.MaxInt, "", 0, api.ErrShort},
	} {
		if row, next, e := leb.GetRow(c.b, c.at, c.most); string(row) != c.want || next != c.next || e != c.e {
			t.Errorf("%d: GetRow(%x, %d, %d) = %q, %d, %v", i, c.b, c.at, c.most, row, next, e)
		}
	}
}

func TestP1_4PutList(t *testing.T) {
	for _, c := range []struct {
		l    []uint64
		want []byte
	}{
		{nil, []byte{0}},
		{[]uint64{}, []byte{0}},
		{[]uint64{0}, []byte{1, 0}},
		{[]uint64{1, 300}, []byte{2, 1, 0xac, 2}},
		{[]uint64{greatest, 0}, append(append([]byte{2}, nineFF(1)...), 0)},
	} {
		if b := leb.PutList(c.l); !bytes.Equal(b, c.want) {
			t.Errorf("PutList(%d) = %x, not %x", c.l, b, c.want)
		}
	}
	for _, l := range [][]uint64{edges(), make([]uint64, 127), make([]uint64, 128), make([]uint64, 65536)} {
		want := saidPut(uint64(len(l)))
		for _, n := range l {
			want = append(want, saidPut(n)...)
		}
		if b := leb.PutList(l); !bytes.Equal(b, want) {
			t.Errorf("PutList of %d numbers is wrong: %d bytes", len(l), len(b))
		}
	}
}

func TestP1_4GetListOfExamplesAndEdges(t *testing.T) {
	two := []byte{2, 1, 0xac, 2}
	behind := []byte{9, 9, 2, 1, 0xac, 2, 9}
	maxInt := leb.Put(math.MaxInt)
	for i, c := range []struct {
		b        []byte
		at, most int
		want     []uint64
		next     int
		e        api.Errno
	}{
		{two, 0, 2, []uint64{1, 300}, 4, api.OK},
		{two, 0, math.MaxInt, []uint64{1, 300}, 4, api.OK},
		{two, 0, 1, nil, 0, api.ErrLimit},
		{two, 0, 0, nil, 0, api.ErrLimit},
		{two, 0, -1, nil, 0, api.ErrLimit},
		{two, 0, math.MinInt, nil, 0, api.ErrLimit},
		{behind, 2, 2, []uint64{1, 300}, 6, api.OK},
		{[]byte{2, 1}, 0, 2, nil, 0, api.ErrShort},
		{[]byte{2}, 0, 2, nil, 0, api.ErrShort},
		{[]byte{2, 1, 0xac}, 0, 2, nil, 0, api.ErrShort},
		{two[:3], 0, 2, nil, 0, api.ErrShort},
		{[]byte{0}, 0, 0, nil, 1, api.OK},
		{[]byte{0, 9}, 0, 0, nil, 1, api.OK},
		{[]byte{0}, 0, -1, nil, 0, api.ErrLimit},
		{[]byte{2, 1, 0x80, 0}, 0, 2, nil, 0, api.ErrForm},
		{[]byte{3, 1, 0x80, 0, 0x80}, 0, 3, nil, 0, api.ErrForm}, // the first one that is refused tells
		{append([]byte{2}, nineFF(2)...), 0, 2, nil, 0, api.ErrForm},
		{[]byte{9, 0x80, 0}, 0, 9, nil, 0, api.ErrForm}, // also where there are too few bytes for so many
		{[]byte{9, 0x80, 0}, 0, 8, nil, 0, api.ErrLimit},
		{[]byte{2, 1}, 0, 1, nil, 0, api.ErrLimit},
		{nil, 0, 9, nil, 0, api.ErrShort},
		{nil, 0, -1, nil, 0, api.ErrShort},
		{[]byte{0x80, 0}, 0, -1, nil, 0, api.ErrForm},
		{two, 4, 9, nil, 0, api.ErrShort},
		{two, 5, 9, nil, 0, api.ErrArg},
		{two, -1, 9, nil, 0, api.ErrArg},
		{two, math.MinInt, -1, nil, 0, api.ErrArg},
		{nineFF(1), 0, math.MaxInt, nil, 0, api.ErrLimit},
		{nineFF(1), 0, -1, nil, 0, api.ErrLimit},
		{leb.Put(math.MaxInt + 1), 0, math.MaxInt, nil, 0, api.ErrLimit},
		{maxInt, 0, math.MaxInt, nil, 0, api.ErrShort}, // no room is taken for what can't be there
		{append(slices.Clone(maxInt), 1, 2, 3), 0, math.MaxInt, nil, 0, api.ErrShort},
	} {
		if l, next, e := leb.GetList(c.b, c.at, c.most); !slices.Equal(l, c.want) || next != c.next || e != c.e {
			t.Errorf("%d: GetList(%x, %d, %d) = %d, %d, %v", i, c.b, c.at, c.most, l, next, e)
		}
	}
}

// around: b between what stands ahead of it and behind it.
func around(ahead, b, behind []byte) []byte {
	return slices.Concat(ahead, b, behind)
}

// neighbours: what may stand ahead of a number, or behind it.
func neighbours() [][]byte {
	return [][]byte{nil, {0}, {0x80}, {0xff, 0xff, 0xff}, {1, 2, 3}, nineFF(2)}
}

func TestP1_5WhatIsPutIsGot(t *testing.T) {
	lists := [][]uint64{nil, {0}, {1, 300}, {greatest, 0, greatest}, edges(), make([]uint64, 200)}
	for _, ahead := range neighbours() {
		for _, behind := range neighbours() {
			at := len(ahead)
			for _, n := range edges() {
				b := around(ahead, leb.Put(n), behind)
				if got, next, e := leb.Get(b, at); got != n || next != len(b)-len(behind) || e != api.OK {
					t.Errorf("Get(%x, %d) = %d, %d, %v, not %d", b, at, got, next, e, n)
				}
			}
			for _, size := range []int{0, 1, 127, 128, 20000} {
				row := bytes.Repeat([]byte{0x80, 7, 0}, size)[:size]
				b := around(ahead, leb.PutRow(row), behind)
				if got, next, e := leb.GetRow(b, at, size); !bytes.Equal(got, row) || next != len(b)-len(behind) || e != api.OK {
					t.Errorf("GetRow of %d bytes at %d: %d bytes, %d, %v", size, at, len(got), next, e)
				}
			}
			for _, l := range lists {
				b := around(ahead, leb.PutList(l), behind)
				if got, next, e := leb.GetList(b, at, len(l)); !slices.Equal(got, l) || next != len(b)-len(behind) || e != api.OK {
					t.Errorf("GetList(%x, %d) = %d, %d, %v, not %d", b, at, got, next, e, l)
				}
			}
		}
	}
}

func TestP1_5WhatIsGotIsPut(t *testing.T) {
	check := func(b []byte) {
		for at := range len(b) + 1 {
			if n, next, e := leb.Get(b, at); e == api.OK && !bytes.Equal(b[at:next], leb.Put(n)) {
				t.Fatalf("Get(%x, %d) = %d, %d", b, at, n, next)
			}
			if row, next, e := leb.GetRow(b, at, math.MaxInt); e == api.OK && !bytes.Equal(b[at:next], leb.PutRow(row)) {
				t.Fatalf("GetRow(%x, %d) = %x, %d", b, at, row, next)
			}
			if l, next, e := leb.GetList(b, at, math.MaxInt); e == api.OK && !bytes.Equal(b[at:next], leb.PutList(l)) {
				t.Fatalf("GetList(%x, %d) = %d, %d", b, at, l, next)
			}
		}
	}
	eachShort(check)
	eachLong(check)
}

func TestP1_5NoBeginnings(t *testing.T) {
	for _, m := range edges() {
		for _, n := range edges() {
			if m != n && bytes.HasPrefix(leb.Put(n), leb.Put(m)) {
				t.Errorf("the bytes of %d begin those of %d", m, n)
			}
		}
	}
}

// spoil: writes over a list and over the room behind its end.
func spoil[T any](l []T, v T) {
	l = l[:cap(l)]
	for i := range l {
		l[i] = v
	}
}

func TestMemoryOfAnswersIsNew(t *testing.T) {
	whole := []byte{2, 'a', 'b', 3, 5, 0xac, 2, 6, 0xee, 0xee}
	b := slices.Clone(whole)
	in := b[:8]
	row, _, _ := leb.GetRow(in, 0, 9)
	again, _, _ := leb.GetRow(in, 0, 9)
	l, _, _ := leb.GetList(in, 3, 9)
	spoil(row, 'x')
	spoil(l, 7)
	if string(again) != "ab" || !bytes.Equal(b, whole) {
		t.Errorf("GetRow or GetList shares memory: %q, %x", again, b)
	}
	spoil(b, 'y')
	if string(again) != "ab" {
		t.Errorf("a row that was answered changed: %q", again)
	}
}

func TestMemoryOfArgumentsStays(t *testing.T) {
	b := []byte{'a', 'b', 0xee, 0xee}
	l := []uint64{1, 300, 77, 77}
	putRow, putList, put := leb.PutRow(b[:2]), leb.PutList(l[:2]), leb.Put(300)
	for _, x := range [][]byte{putRow, putList, put} {
		spoil(x, 'x')
	}
	if !bytes.Equal(b, []byte{'a', 'b', 0xee, 0xee}) || !slices.Equal(l, []uint64{1, 300, 77, 77}) {
		t.Errorf("an argument changed: %x, %d", b, l)
	}
	if !bytes.Equal(leb.Put(300), []byte{0xac, 2}) {
		t.Errorf("two answers of Put share memory")
	}
}
