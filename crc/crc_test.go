package crc_test

import (
	"bytes"
	"hash/crc32"
	"math"
	"math/bits"
	"testing"

	"stook/api"
	"stook/crc"
)

const (
	greatest = math.MaxUint32
	farthest = 1 << 20 // the greatest length that Join allows
)

// numbers: the numbers of 32 bits at which something changes, their neighbours, and some of no pattern.
func numbers() []uint32 {
	l := []uint32{0, 1, 2, 3, 0x82f63b77, 0x82f63b78, 0x82f63b79, greatest - 1, greatest}
	for k := 1; k < 32; k++ {
		l = append(l, 1<<k-1, 1<<k, 1<<k+1, ^uint32(1<<k))
	}
	return append(l, mixed(1, 500)...)
}

// mixed: count numbers without a pattern that the sum could have too.
func mixed(seed uint32, count int) []uint32 {
	l := make([]uint32, count)
	for i := range l {
		seed = seed*1664525 + 1013904223
		l[i] = bits.ReverseBytes32(seed * 2654435761)
	}
	return l
}

// row: size bytes without a pattern.
func row(seed uint32, size int) []byte {
	b := make([]byte, size)
	for i, n := range mixed(seed, size) {
		b[i] = byte(n >> 11)
	}
	return b
}

// saidStep: a step as the words say it, by halves and remainders of a greater kind of number.
func saidStep(r uint32) uint32 {
	half := uint64(r) / 2
	if uint64(r)%2 == 0 {
		return uint32(half)
	}
	return uint32(half ^ 0x82F63B78)
}

// saidTake: taking a byte, as the words say it, its steps written out.
func saidTake(r uint32, c byte) uint32 {
	r ^= uint32(c)
	return saidStep(saidStep(saidStep(saidStep(saidStep(saidStep(saidStep(saidStep(r))))))))
}

// saidMore: P2.2; each number has the bits that its sum with the turned one lacks.
func saidMore(sum uint32, b []byte) uint32 {
	r := greatest - sum
	for _, c := range b {
		r = saidTake(r, c)
	}
	return greatest - r
}

// saidJoin: P2.3.
func saidJoin(a, b uint32, n int) uint32 {
	for i := 0; i < n; i++ {
		a = saidTake(a, 0)
	}
	return a ^ b
}

// shortRows: rows of up to 69 bytes, those without bytes among them.
func shortRows() [][]byte {
	l := [][]byte{nil, {}, {0}, {0xff}, make([]byte, 32), bytes.Repeat([]byte{0xff}, 32), []byte("123456789")}
	for size := 1; size < 70; size++ {
		l = append(l, row(uint32(size), size))
	}
	return l
}

// rows: the short rows, and some that are as long as what the other layers sum.
func rows() [][]byte {
	return append(shortRows(), row(7, 496), row(8, 512), row(9, 4096), row(10, 65536))
}

func TestP2_1StepOfExamples(t *testing.T) {
	for r, want := range map[uint32]uint32{
		0: 0, 1: 0x82f63b78, 2: 1, 3: 0x82f63b79, 4: 2,
		1 << 31: 1 << 30, greatest - 1: greatest / 2, greatest: 0x7fffffff ^ 0x82f63b78,
	} {
		if n := crc.Step(r); n != want {
			t.Errorf("Step(%x) = %x, not %x", r, n, want)
		}
	}
}

func TestP2_1StepAsTheWordsSay(t *testing.T) {
	for r := range uint32(1 << 17) {
		for _, n := range []uint32{r, r << 15, greatest - r} {
			if s, want := crc.Step(n), saidStep(n); s != want {
				t.Fatalf("Step(%x) = %x, not %x", n, s, want)
			}
		}
	}
	for _, n := range numbers() {
		if s, want := crc.Step(n), saidStep(n); s != want {
			t.Errorf("Step(%x) = %x, not %x", n, s, want)
		}
	}
}

func TestP2_1TakeAsTheWordsSay(t *testing.T) {
	if n := crc.Take(0, 1); n != 0xf26b8303 {
		t.Errorf("Take(0, 1) = %x", n)
	}
	if n := crc.Take(0, 0); n != 0 {
		t.Errorf("Take(0, 0) = %x", n)
	}
	for _, r := range numbers() {
		for c := range 256 {
			if n, want := crc.Take(r, byte(c)), saidTake(r, byte(c)); n != want {
				t.Errorf("Take(%x, %x) = %x, not %x", r, c, n, want)
			}
		}
	}
}

func TestP2_2OfExamples(t *testing.T) {
	for _, c := range []struct {
		b    []byte
		want uint32
	}{
		{nil, 0},
		{[]byte{}, 0},
		{[]byte("a"), 0xc1d04330},
		{[]byte("123456789"), 0xe3069283},
		{make([]byte, 32), 0x8a9136aa},
		{bytes.Repeat([]byte{0xff}, 32), 0x62a8ab43},
	} {
		if n := crc.Of(c.b); n != c.want {
			t.Errorf("Of(%x) = %x, not %x", c.b, n, c.want)
		}
	}
}

func TestP2_2OfIsTheSumOfTheStandard(t *testing.T) {
	table := crc32.MakeTable(crc32.Castagnoli)
	for _, b := range rows() {
		if n, want := crc.Of(b), crc32.Checksum(b, table); n != want {
			t.Errorf("Of %d bytes = %x, not %x", len(b), n, want)
		}
	}
}

func TestP2_2OfEachByte(t *testing.T) {
	seen := map[uint32]int{}
	for c := range 256 {
		n := crc.Of([]byte{byte(c)})
		if want := saidMore(0, []byte{byte(c)}); n != want {
			t.Errorf("Of(%x) = %x, not %x", c, n, want)
		}
		if other, twice := seen[n]; twice {
			t.Errorf("Of(%x) is Of(%x)", c, other)
		}
		seen[n] = c
	}
}

func TestP2_2MoreOfAnyNumber(t *testing.T) {
	for _, sum := range numbers() {
		for _, b := range [][]byte{nil, {}, {0}, {1}, {0x80}, {0xff}, {0, 0}, []byte("56789"), row(sum, 40)} {
			if n, want := crc.More(sum, b), saidMore(sum, b); n != want {
				t.Errorf("More(%x, %x) = %x, not %x", sum, b, n, want)
			}
		}
		if n := crc.More(sum, nil); n != sum {
			t.Errorf("More(%x, none) = %x", sum, n)
		}
	}
}

func TestP2_2OfIsMoreOfNought(t *testing.T) {
	for _, b := range rows() {
		if of, more := crc.Of(b), crc.More(0, b); of != more {
			t.Errorf("of %d bytes: Of %x, More %x", len(b), of, more)
		}
	}
}

func TestP2_2BytesStayAsTheyAre(t *testing.T) {
	for _, size := range []int{0, 1, 9, 512} {
		room := row(3, size+8)
		was := bytes.Clone(room)
		crc.Of(room[:size])
		crc.More(5, room[:size])
		if !bytes.Equal(room, was) {
			t.Errorf("of %d bytes: they, or those behind them, were changed", size)
		}
	}
}

func TestP2_3JoinOfExamples(t *testing.T) {
	for _, c := range []struct {
		a, b uint32
		n    int
		want uint32
	}{
		{crc.Of([]byte("1234")), crc.Of([]byte("56789")), 5, 0xe3069283},
		{5, 0, 0, 5},
		{5, 3, 0, 6},
		{0, greatest, 0, greatest},
		{0, 7, 1, 7},
		{0, 7, farthest, 7},
		{1, 0, 1, saidTake(1, 0)},
	} {
		n, e := crc.Join(c.a, c.b, c.n)
		if n != c.want || e != api.OK {
			t.Errorf("Join(%x, %x, %d) = %x, %v; not %x", c.a, c.b, c.n, n, e, c.want)
		}
	}
}

func TestP2_3JoinAsTheWordsSay(t *testing.T) {
	l := numbers()
	for i, a := range l {
		b := l[(i*7+1)%len(l)]
		for _, n := range []int{0, 1, 2, 3, 4, 5, 31, 32, 64, 100} {
			if j, e := crc.Join(a, b, n); j != saidJoin(a, b, n) || e != api.OK {
				t.Errorf("Join(%x, %x, %d) = %x, %v; not %x", a, b, n, j, e, saidJoin(a, b, n))
			}
		}
	}
}

func TestP2_3JoinAtTheLimit(t *testing.T) {
	for _, a := range []uint32{1, 0xc1d04330, greatest} {
		for _, n := range []int{farthest - 1, farthest} {
			if j, e := crc.Join(a, 9, n); j != saidJoin(a, 9, n) || e != api.OK {
				t.Errorf("Join(%x, 9, %d) = %x, %v; not %x", a, n, j, e, saidJoin(a, 9, n))
			}
		}
	}
}

func TestP2_3JoinOfWrongLengths(t *testing.T) {
	for _, n := range []int{-1, -2, -farthest, math.MinInt32, math.MinInt, math.MinInt + 1, farthest + 1, farthest + 2, 2 * farthest, math.MaxInt32, 1 << 32, 1<<32 + 5, math.MaxInt - 1, math.MaxInt} {
		for _, a := range []uint32{0, 1, greatest} {
			if j, e := crc.Join(a, 1, n); j != 0 || e != api.ErrArg {
				t.Errorf("Join(%x, 1, %d) = %x, %v; not 0, %v", a, n, j, e, api.ErrArg)
			}
		}
	}
}

func TestP2_4TwoPiecesWhereverTheyAreCut(t *testing.T) {
	for _, b := range shortRows() {
		whole := crc.Of(b)
		for cut := range len(b) + 1 {
			first, second := b[:cut], b[cut:]
			if n := crc.More(crc.Of(first), second); n != whole {
				t.Errorf("%d bytes cut at %d: More = %x, not %x", len(b), cut, n, whole)
			}
			if n, e := crc.Join(crc.Of(first), crc.Of(second), len(second)); n != whole || e != api.OK {
				t.Errorf("%d bytes cut at %d: Join = %x, %v; not %x", len(b), cut, n, e, whole)
			}
		}
	}
}

func TestP2_4TwoGreatPieces(t *testing.T) {
	b := row(5, farthest+1000)
	whole := crc.Of(b)
	for _, cut := range []int{1000, 1001, 500000, len(b) - 1, len(b)} {
		first, second := b[:cut], b[cut:]
		if n := crc.More(crc.Of(first), second); n != whole {
			t.Errorf("cut at %d: More = %x, not %x", cut, n, whole)
		}
		if n, e := crc.Join(crc.Of(first), crc.Of(second), len(second)); n != whole || e != api.OK {
			t.Errorf("cut at %d: Join = %x, %v; not %x", cut, n, e, whole)
		}
	}
}

func TestP2_4NearRowsHaveUnlikeSums(t *testing.T) {
	for _, size := range []int{1, 2, 3, 4, 5, 9, 40} {
		b := row(uint32(size), size)
		whole := crc.Of(b)
		for at := range b {
			for wide := 1; wide <= 4 && at+wide <= size; wide++ {
				for _, change := range numbers() {
					near := bytes.Clone(b)
					for i := range wide {
						near[at+i] ^= byte(change >> (8 * i))
					}
					if !bytes.Equal(near, b) && crc.Of(near) == whole {
						t.Errorf("%x and %x have one sum", near, b)
					}
				}
			}
		}
	}
}

// stepBack: the one number of which Step could make r, seen by the highest bit, which half a number never has.
func stepBack(r uint32) uint32 {
	if r>>31 == 1 {
		return (r^0x82f63b78)<<1 | 1
	}
	return r << 1
}

func TestP2_4StepNeverMakesOneNumberOfTwo(t *testing.T) {
	check := func(r uint32) {
		if back := stepBack(crc.Step(r)); back != r {
			t.Fatalf("Step(%x) = %x, which comes of %x", r, crc.Step(r), back)
		}
	}
	for r := range uint32(1 << 18) {
		check(r)
		check(r << 14)
		check(greatest - r)
	}
	for _, r := range numbers() {
		check(r)
	}
}
