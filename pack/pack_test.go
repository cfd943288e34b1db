package pack_test

import (
	"bytes"
	"encoding/binary"
	"math"
	"math/big"
	"runtime"
	"slices"
	"testing"

	"stook/api"
	"stook/pack"
)

// putAs: Put and Size say of the row what the words say.
func putAs(t *testing.T, l []int) {
	t.Helper()
	want, why := saidPut(l)
	if b, e := pack.Put(l); !bytes.Equal(b, want) || e != why {
		t.Errorf("Put of %d tokens (%d ..) = %x, %v, not %x, %v", len(l), l[:min(9, len(l))], b, e, want, why)
	}
	if size, e := pack.Size(l); size != len(want) || e != why {
		t.Errorf("Size of %d tokens (%d ..) = %d, %v, not %d, %v", len(l), l[:min(9, len(l))], size, e, len(want), why)
	}
}

// getAs: Get says of the place what the words say.
func getAs(t *testing.T, b []byte, at int) {
	t.Helper()
	want, behind, why := saidGet(b, at)
	if l, next, e := pack.Get(b, at); !slices.Equal(l, want) || next != behind || e != why {
		t.Errorf("Get(%x.., %d) = %d.., %d, %v, not %d.., %d, %v", b[:min(30, len(b))], at, l[:min(9, len(l))], next, e, want[:min(9, len(want))], behind, why)
	}
}

// got: Get tells just this of these bytes.
func got(t *testing.T, b []byte, at int, want []int, behind int, why api.Errno) {
	t.Helper()
	if l, next, e := pack.Get(b, at); !slices.Equal(l, want) || next != behind || e != why {
		t.Errorf("Get(%x.., %d) = %d, %d, %v, not %d, %d, %v", b[:min(30, len(b))], at, l, next, e, want, behind, why)
	}
}

// of: the bytes of these numbers, one behind the other.
func of(numbers ...uint64) []byte {
	var b []byte
	for _, n := range numbers {
		b = binary.AppendUvarint(b, n)
	}
	return b
}

func TestP12_1Examples(t *testing.T) {
	for _, c := range []struct {
		n int64
		u uint64
	}{
		{0, 0},
		{-1, 1},
		{1, 2},
		{-2, 3},
		{2, 4},
		{-300, 599},
		{300, 600},
		{math.MaxInt32, 1<<32 - 2},
		{math.MinInt32, 1<<32 - 1},
		{1 << 62, 1 << 63},
		{-1 << 62, 1<<63 - 1},
		{math.MaxInt64, 1<<64 - 2},
		{math.MinInt64 + 1, 1<<64 - 3},
		{math.MinInt64, 1<<64 - 1},
	} {
		if u := pack.Fold(c.n); u != c.u {
			t.Errorf("Fold(%d) = %d, not %d", c.n, u, c.u)
		}
		if n := pack.Unfold(c.u); n != c.n {
			t.Errorf("Unfold(%d) = %d, not %d", c.u, n, c.n)
		}
	}
}

func TestP12_1AsTheWordsSay(t *testing.T) {
	check := func(n int64) {
		u := saidFold(big.NewInt(n)).Uint64()
		if pack.Fold(n) != u || pack.Unfold(u) != n || saidUnfold(u).Int64() != n {
			t.Errorf("Fold(%d) = %d, not %d; of that Unfold = %d", n, pack.Fold(n), u, pack.Unfold(u))
		}
	}
	for n := int64(-20000); n < 20000; n++ {
		check(n)
	}
	for _, n := range edges() {
		check(n)
	}
	c := &chance{1}
	for range 10000 {
		check(int64(c.word() >> c.below(64)))
		check(-int64(c.word() >> c.below(64)))
	}
}

func TestP12_2Examples(t *testing.T) {
	for _, c := range []struct {
		l    []int
		want []byte
		e    api.Errno
	}{
		{nil, []byte{0}, api.OK},
		{[]int{}, []byte{0}, api.OK},
		{[]int{0}, []byte{1, 0}, api.OK},
		{[]int{5, 3, 300}, []byte{3, 0x0a, 3, 0xd2, 4}, api.OK},
		{[]int{64, 0, 63}, []byte{3, 0x80, 1, 0x7f, 0x7e}, api.OK},
		{[]int{7, 7, 7}, []byte{3, 14, 0, 0}, api.OK},
		{[]int{1048575}, []byte{1, 0xfe, 0xff, 0x7f}, api.OK},
		{[]int{1048575, 0}, []byte{2, 0xfe, 0xff, 0x7f, 0xfd, 0xff, 0x7f}, api.OK},
		{[]int{-1}, nil, api.ErrArg},
		{[]int{1048576}, nil, api.ErrArg},
	} {
		if b, e := pack.Put(c.l); !bytes.Equal(b, c.want) || e != c.e {
			t.Errorf("Put(%d) = %x, %v, not %x, %v", c.l, b, e, c.want, c.e)
		}
		if size, e := pack.Size(c.l); size != len(c.want) || e != c.e {
			t.Errorf("Size(%d) = %d, %v, not %d, %v", c.l, size, e, len(c.want), c.e)
		}
	}
}

func TestP12_2AsTheWordsSay(t *testing.T) {
	for _, l := range rows() {
		putAs(t, l)
	}
	for _, l := range lists([]int{0, 1, 63, 64, 65, 8256, 1048575}, 5) {
		putAs(t, l)
	}
}

// Tokens from the least to the greatest, as the first one, as the last one, and between two others.
func TestP12_2TokensOfAllSizes(t *testing.T) {
	for token := 0; token <= 1048575; token += 1 + token>>9 {
		for _, l := range [][]int{{token}, {1048575 - token, token}, {4096, token, 4096}} {
			putAs(t, l)
		}
	}
}

// A token that may not be, at whatever place, among those that may.
func TestP12_2TokensThatMayNotBe(t *testing.T) {
	for _, wrong := range []int{-1, -2, -1 << 31, math.MinInt, math.MinInt + 1, 1048576, 1048577, 1 << 31, 1 << 32, math.MaxInt - 1, math.MaxInt} {
		for _, l := range lists([]int{0, 1048575, wrong}, 4) {
			putAs(t, l)
		}
		for _, at := range []int{0, 1, 32768, 65534, 65535} {
			l := make([]int, 65536)
			l[at] = wrong
			putAs(t, l)
		}
	}
}

// How many there are comes ahead of what they are.
func TestP12_2HowMany(t *testing.T) {
	for _, n := range []int{65535, 65536, 65537, 65538, 1 << 17, 1 << 20} {
		for _, token := range []int{0, 1, 1048575} {
			putAs(t, slices.Repeat([]int{token}, n))
		}
		for _, wrong := range []int{-1, 1048576} {
			l := make([]int, n)
			l[0], l[n-1] = wrong, wrong
			putAs(t, l)
		}
	}
	if b, e := pack.Put(make([]int, 65536)); len(b) != 65539 || e != api.OK {
		t.Errorf("Put of as many as may be: %d bytes, %v", len(b), e)
	}
	if b, e := pack.Put(make([]int, 65537)); b != nil || e != api.ErrLimit {
		t.Errorf("Put of one more: %d bytes, %v", len(b), e)
	}
	if size, e := pack.Size(append(make([]int, 65536), -1)); size != 0 || e != api.ErrLimit {
		t.Errorf("Size of one more: %d, %v", size, e)
	}
	// As many bytes as a row may have: each difference is as great as may be.
	if size, e := pack.Size(slices.Repeat([]int{1048575, 0}, 32768)); size != 3+3*65536 || e != api.OK {
		t.Errorf("Size of as many, each as far as may be from the one ahead: %d, %v", size, e)
	}
}

func TestP12_3Examples(t *testing.T) {
	got(t, []byte{3, 0x0a, 3, 0xd2, 4}, 0, []int{5, 3, 300}, 5, api.OK)
	got(t, []byte{1, 1}, 0, nil, 0, api.ErrForm)
	got(t, []byte{2, 0}, 0, nil, 0, api.ErrShort)
	got(t, []byte{0x81, 0x80, 4}, 0, nil, 0, api.ErrLimit)
	got(t, []byte{0}, 0, nil, 1, api.OK)
	got(t, []byte{9, 1, 10, 7}, 1, []int{5}, 3, api.OK)
	got(t, []byte{9, 0, 10, 7}, 1, nil, 2, api.OK)
}

// What leb.Get says of the place and of the number of how many there are comes first.
func TestP12_3TheNumberOfHowMany(t *testing.T) {
	for _, b := range [][]byte{nil, {}, {0}, {1, 10}, {3, 10, 3, 0xd2, 4}} {
		for _, at := range []int{-1, -2, math.MinInt, math.MinInt + 1, len(b) + 1, len(b) + 2, math.MaxInt32, math.MaxInt - 1, math.MaxInt} {
			got(t, b, at, nil, 0, api.ErrArg)
		}
		got(t, b, len(b), nil, 0, api.ErrShort)
	}
	got(t, []byte{0x80}, 0, nil, 0, api.ErrShort)
	got(t, []byte{0x80, 0}, 0, nil, 0, api.ErrForm)
	got(t, []byte{0x81, 0, 10}, 0, nil, 0, api.ErrForm)
	got(t, []byte{0x80, 0x80, 4}, 0, nil, 0, api.ErrShort) // 65536, and none of them is there
	for _, count := range []uint64{65537, 65538, 1 << 17, 1 << 20, 1 << 31, 1 << 32, 1<<32 + 1, math.MaxInt64, 1 << 63, math.MaxUint64} {
		// Ahead of what is wrong with the tokens.
		for _, behind := range [][]byte{nil, {1}, {0x80}, {0x80, 0}, make([]byte, 70000)} {
			got(t, append(of(count), behind...), 0, nil, 0, api.ErrLimit)
		}
	}
	got(t, append(bytes.Repeat([]byte{0xff}, 9), 2, 1), 0, nil, 0, api.ErrForm)
}

// Of what is wrong with several tokens, what is wrong with the first one of them.
func TestP12_3TokenByToken(t *testing.T) {
	for _, c := range []struct {
		b []byte
		e api.Errno
	}{
		{[]byte{2, 1}, api.ErrForm},
		{[]byte{2, 1, 0x80, 0}, api.ErrForm},
		{[]byte{2, 0, 0x80}, api.ErrShort},
		{[]byte{2, 0, 0x80, 0}, api.ErrForm},
		{[]byte{2, 0, 1}, api.ErrForm},
		{[]byte{2, 0x80}, api.ErrShort},
		{[]byte{2, 0x80, 0}, api.ErrForm},
		{[]byte{3, 2, 1, 1}, api.ErrForm}, // 1, 0, and one below 0
		{[]byte{3, 2, 1, 0x80}, api.ErrShort},
		{[]byte{2, 0x80, 0x80, 0x80, 1}, api.ErrForm}, // one above the greatest token, and then none
		{append([]byte{0x80, 0x80, 4, 1}, make([]byte, 9)...), api.ErrForm},
		{append([]byte{0x80, 0x80, 4}, make([]byte, 65535)...), api.ErrShort},
		{append([]byte{0x80, 0x80, 4}, append(make([]byte, 65535), 0x80)...), api.ErrShort},
		{append([]byte{0x80, 0x80, 4}, append(make([]byte, 65535), 1)...), api.ErrForm},
	} {
		got(t, c.b, 0, nil, 0, c.e)
	}
	got(t, append([]byte{0x80, 0x80, 4}, make([]byte, 65536)...), 0, make([]int, 65536), 65539, api.OK)
	got(t, append([]byte{0x80, 0x80, 4}, make([]byte, 65599)...), 0, make([]int, 65536), 65539, api.OK)
}

// Differences to just the least and the greatest token, one beyond, and far beyond: no sum may wrap round to a token.
func TestP12_3WhatTokensMayBe(t *testing.T) {
	for _, ahead := range []int64{0, 1, 2, 300, 1 << 19, 1048574, 1048575} {
		first := saidFold(big.NewInt(ahead)).Uint64()
		tell := func(difference int64) {
			number := saidFold(big.NewInt(difference)).Uint64()
			getAs(t, of(2, first, number), 0)
			getAs(t, of(3, first, number, 0), 0)
			getAs(t, of(1, number), 0)
		}
		for near := int64(-2); near <= 2; near++ {
			for _, difference := range []int64{-ahead, 1048575 - ahead, 1 << 32, -1 << 32, 1<<32 - ahead, 1<<63 - 3, -1<<63 + 2, 1 << 62, -1 << 62} {
				tell(difference + near)
			}
		}
		for _, difference := range edges() {
			tell(difference)
		}
	}
	got(t, of(2, 2*1048575, 2), 0, nil, 0, api.ErrForm)
	got(t, of(2, 2*1048575, 2*1048575-1), 0, []int{1048575, 0}, 7, api.OK)
	got(t, of(2, 2, 1<<64-2), 0, nil, 0, api.ErrForm)         // the greatest difference, behind a token: no int holds it
	got(t, of(2, 2*1048575, 1<<64-2), 0, nil, 0, api.ErrForm) // it would wrap round below 0
	got(t, of(2, 0, 1<<64-1), 0, nil, 0, api.ErrForm)
	got(t, of(1, 2<<32), 0, nil, 0, api.ErrForm) // would be 0, if half of its bits were lost
}

// All short rows of bytes that matter, from each place on.
func TestP12_3HostileBytes(t *testing.T) {
	for _, b := range lists([]byte{0, 1, 2, 3, 4, 0x7f, 0x80, 0x81, 0xff}, 5) {
		for at := -1; at <= len(b)+1; at++ {
			getAs(t, b, at)
		}
	}
	for i := range 256 {
		getAs(t, []byte{byte(i)}, 0)
		for j := range 256 {
			getAs(t, []byte{byte(i), byte(j)}, 0)
			getAs(t, []byte{1, byte(i), byte(j)}, 0)
			getAs(t, []byte{2, 0x7e, byte(i), byte(j)}, 0)
			getAs(t, []byte{2, 0x7e, byte(i), byte(j), 1}, 0)
		}
	}
}

// Numbers of up to ten bytes as counts and as differences, right and wrong at their ends.
func TestP12_3LongNumbers(t *testing.T) {
	few := []byte{0, 1, 2, 0x7f, 0x80, 0x81, 0xff}
	for size := range 10 {
		for _, fill := range []byte{0x80, 0xaa, 0xff} {
			for _, a := range few {
				for _, c := range few {
					number := append(bytes.Repeat([]byte{fill}, size), a, c)
					getAs(t, number, 0)
					getAs(t, slices.Concat([]byte{1}, number), 0)
					getAs(t, slices.Concat([]byte{2, 5}, number, []byte{2}), 0)
					getAs(t, slices.Concat([]byte{2, 0xfe, 0xff, 0x7f}, number), 0)
				}
			}
		}
	}
}

// Rows as they are put, each with one byte changed, left out or cut off.
func TestP12_3ChangedBytes(t *testing.T) {
	c := &chance{3}
	for _, l := range [][]int{{5, 3, 300}, {0, 1048575, 0, 1048575}, c.tokens(20, 300), c.tokens(130, 1048576)} {
		b, _ := pack.Put(l)
		for at := range b {
			getAs(t, b[:at], 0)
			getAs(t, slices.Delete(bytes.Clone(b), at, at+1), 0)
			for bit := range 8 {
				for _, mask := range []byte{1 << bit, 0xff << bit, 0xff >> bit} {
					changed := bytes.Clone(b)
					changed[at] ^= mask
					getAs(t, changed, 0)
				}
			}
		}
	}
}

// A count of as many as may be with few bytes behind it takes no room to speak of.
func TestP12_3HostileCountsTakeLittleRoom(t *testing.T) {
	b := []byte{0x80, 0x80, 4, 0, 0, 0}
	var ahead, behind runtime.MemStats
	runtime.ReadMemStats(&ahead)
	for range 1000 {
		pack.Get(b, 0)
	}
	runtime.ReadMemStats(&behind)
	if room := (behind.TotalAlloc - ahead.TotalAlloc) / 1000; room > 4096 {
		t.Errorf("Get of six bytes takes %d bytes", room)
	}
}

func TestP12_4WhatIsPutIsGot(t *testing.T) {
	for _, l := range rows() {
		b, e := pack.Put(l)
		if e != api.OK {
			t.Fatalf("Put of %d tokens: %v", len(l), e)
		}
		size, _ := pack.Size(l)
		for _, ahead := range [][]byte{nil, {0}, {0xff, 0x80}, {3, 10, 3}} {
			for _, behind := range [][]byte{nil, {0}, {0x80}, {0xff, 1}} {
				back, next, e := pack.Get(slices.Concat(ahead, b, behind), len(ahead))
				if !slices.Equal(back, l) || next != len(ahead)+size || e != api.OK {
					t.Errorf("Get of what is put of %d tokens = %d tokens, %d, %v", len(l), len(back), next, e)
				}
			}
		}
	}
}

// Where Get answers OK, the bytes are what is put of it: there is one form alone.
func TestP12_4WhatIsGotIsPut(t *testing.T) {
	count := 0
	for _, b := range lists([]byte{0, 1, 2, 3, 4, 0x7f, 0x80, 0x81, 0xff}, 6) {
		for at := range min(2, len(b)) {
			l, next, e := pack.Get(b, at)
			if e != api.OK {
				continue
			}
			count++
			again, e := pack.Put(l)
			size, f := pack.Size(l)
			if !bytes.Equal(again, b[at:next]) || size != next-at || e != api.OK || f != api.OK {
				t.Fatalf("Get(%x, %d) = %d, %d, of which is put %x, %v", b, at, l, next, again, e)
			}
		}
	}
	if count < 100000 {
		t.Errorf("only %d rows were got", count)
	}
}

func TestP12_4UnfoldOfFoldAndFoldOfUnfold(t *testing.T) {
	check := func(n int64, u uint64) {
		if pack.Unfold(pack.Fold(n)) != n || pack.Fold(pack.Unfold(u)) != u {
			t.Errorf("Unfold of Fold of %d = %d, Fold of Unfold of %d = %d", n, pack.Unfold(pack.Fold(n)), u, pack.Fold(pack.Unfold(u)))
		}
	}
	for n := range uint64(70000) {
		check(int64(n)-35000, n)
		check(math.MaxInt64-int64(n), math.MaxUint64-n)
		check(math.MinInt64+int64(n), 1<<63-35000+n)
	}
	for _, n := range edges() {
		check(n, uint64(n))
	}
	c := &chance{4}
	for range 100000 {
		check(int64(c.word()), c.word())
	}
}

// spoil: all of the list's elements, and what stands in the room behind its end, become x.
func spoil[T any](list []T, x T) {
	list = list[:cap(list)]
	for i := range list {
		list[i] = x
	}
}

func TestP12_2And3MemoryOfAnswersIsNew(t *testing.T) {
	row := []int{5, 3, 300}
	b, _ := pack.Put(row)
	other, _ := pack.Put(row)
	l, _, _ := pack.Get(other, 0)
	again, _, _ := pack.Get(other, 0)
	spoil(b, 0xee)
	spoil(l, -9)
	if !bytes.Equal(other, []byte{3, 10, 3, 0xd2, 4}) || !slices.Equal(again, []int{5, 3, 300}) || !slices.Equal(row, []int{5, 3, 300}) {
		t.Errorf("answers share memory: %x, %d, %d", other, again, row)
	}
	none, _ := pack.Put(nil)
	spoil(none, 0xee)
	if none, _ = pack.Put(nil); !bytes.Equal(none, []byte{0}) {
		t.Errorf("answers of no tokens share memory: %x", none)
	}
}

func TestP12_2And3LeaveWhatTheyAreHanded(t *testing.T) {
	tokens := []int{5, 3, 300, -1, 1048576, 7}
	for n := range len(tokens) + 1 {
		pack.Put(tokens[:n])
		pack.Size(tokens[:n])
	}
	if !slices.Equal(tokens, []int{5, 3, 300, -1, 1048576, 7}) {
		t.Errorf("the tokens that were handed in are others now: %d", tokens)
	}
	b := []byte{3, 10, 3, 0xd2, 4, 1, 1}
	for n := range len(b) + 1 {
		for at := range n + 1 {
			pack.Get(b[:n], at)
		}
	}
	if !bytes.Equal(b, []byte{3, 10, 3, 0xd2, 4, 1, 1}) {
		t.Errorf("the bytes that were handed in are others now: %x", b)
	}
	// The room behind the end is none of theirs: what stands there is not read.
	got(t, b[:4], 0, nil, 0, api.ErrShort)
	got(t, b[:5], 5, nil, 0, api.ErrShort)
	got(t, b[:5], 6, nil, 0, api.ErrArg)
}
