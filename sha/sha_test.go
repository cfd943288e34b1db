package sha_test

import (
	"bytes"
	"crypto/sha256"
	"encoding/binary"
	"encoding/hex"
	"math"
	"math/big"
	"slices"
	"strings"
	"testing"

	"stook/api"
	"stook/sha"
)

const (
	word     = 1 << 32 // how many numbers of 32 bits there are
	block    = 64
	farthest = 1 << 40 // the greatest number that Behind allows
	figures  = "0123456789abcdef"
)

// row: size bytes without a pattern.
func row(seed uint32, size int) []byte {
	b := make([]byte, size)
	for i := range b {
		seed = seed*1664525 + 1013904223
		b[i] = byte(seed >> 21)
	}
	return b
}

// edges: the lengths at which something changes, and their neighbours.
func edges() []int {
	return []int{0, 1, 2, 3, 54, 55, 56, 57, 62, 63, 64, 65, 66, 118, 119, 120, 121, 127, 128, 129, 183, 184, 191, 192, 193, 4095, 4096, 4097, 65536}
}

// saidRoots: the first 32 bits behind the point of the roots (the second, the third ..) of the first primes.
func saidRoots(degree int64, count int) []uint64 {
	var l []uint64
	for p := int64(2); len(l) < count; p++ {
		if !big.NewInt(p).ProbablyPrime(0) {
			continue
		}
		// The root of p 2^(32 degree) is p's, its point 32 bits farther on.
		of := new(big.Int).Lsh(big.NewInt(p), uint(32*degree))
		root := big.NewInt(0)
		for bit := 63; bit >= 0; bit-- {
			more := new(big.Int).SetBit(root, bit, 1)
			if new(big.Int).Exp(more, big.NewInt(degree), nil).Cmp(of) <= 0 {
				root = more
			}
		}
		l = append(l, root.Uint64()%word)
	}
	return l
}

// saidTurn: the bits of x, each n places farther down, the lowest ones coming in above.
func saidTurn(x uint64, n int) uint64 {
	var y uint64
	for i := range 32 {
		y += x >> i % 2 << ((i + 32 - n) % 32)
	}
	return y
}

// saidBits: of each bit what f makes of that of the three.
func saidBits(x, y, z uint64, f func(x, y, z uint64) uint64) uint64 {
	var all uint64
	for i := range 32 {
		all += f(x>>i%2, y>>i%2, z>>i%2) << i
	}
	return all
}

// saidWords: W0 to W63, as the words say them.
func saidWords(b [block]byte) []uint64 {
	var w []uint64
	for i := range 16 {
		w = append(w, uint64(binary.BigEndian.Uint32(b[4*i:])))
	}
	for i := 16; i < 64; i++ {
		x, y := w[i-15], w[i-2]
		s0 := saidTurn(x, 7) ^ saidTurn(x, 18) ^ x/8
		s1 := saidTurn(y, 17) ^ saidTurn(y, 19) ^ y/1024
		w = append(w, (w[i-16]+s0+w[i-7]+s1)%word)
	}
	return w
}

// saidPress: a block that is pressed, as the words say it, by greater numbers whose sums are cut to words.
func saidPress(state [8]uint32, b [block]byte, k []uint64) [8]uint32 {
	ch := func(x, y, z uint64) uint64 {
		if x == 1 {
			return y
		}
		return z
	}
	maj := func(x, y, z uint64) uint64 { return (x + y + z) / 2 }
	var l []uint64 // a to h
	for _, n := range state {
		l = append(l, uint64(n))
	}
	for i, w := range saidWords(b) {
		s1 := saidTurn(l[4], 6) ^ saidTurn(l[4], 11) ^ saidTurn(l[4], 25)
		t1 := l[7] + s1 + saidBits(l[4], l[5], l[6], ch) + k[i] + w
		s0 := saidTurn(l[0], 2) ^ saidTurn(l[0], 13) ^ saidTurn(l[0], 22)
		t2 := s0 + saidBits(l[0], l[1], l[2], maj)
		l = []uint64{(t1 + t2) % word, l[0], l[1], l[2], (l[3] + t1) % word, l[4], l[5], l[6]}
	}
	for i, n := range l {
		state[i] = uint32((uint64(state[i]) + n) % word)
	}
	return state
}

// saidBeginning: H0 to H7.
func saidBeginning() [8]uint32 {
	var h [8]uint32
	for i, n := range saidRoots(2, 8) {
		h[i] = uint32(n)
	}
	return h
}

// saidBehind: P4.1: the 80, one byte 0 after the other till it fits, and how many bits there were.
func saidBehind(n int) []byte {
	b := []byte{0x80}
	for (n+len(b)+8)%block != 0 {
		b = append(b, 0)
	}
	return binary.BigEndian.AppendUint64(b, 8*uint64(n))
}

// states: those of the beginning and of others, in which sums wrap round or nothing is.
func states() [][8]uint32 {
	l := [][8]uint32{saidBeginning(), {}}
	var full [8]uint32
	for i := range full {
		full[i] = math.MaxUint32
	}
	l = append(l, full)
	for i := range 8 {
		var one, top [8]uint32
		one[i], top[i] = 1, 1<<31
		l = append(l, one, top)
	}
	for seed := range uint32(10) {
		var h [8]uint32
		for i := range h {
			h[i] = binary.LittleEndian.Uint32(row(100*seed+uint32(i), 4))
		}
		l = append(l, h)
	}
	return l
}

// blocks: those of one bit, of none and of all, and some without a pattern.
func blocks() [][block]byte {
	l := [][block]byte{{}, [block]byte(bytes.Repeat([]byte{0xff}, block)), [block]byte(append([]byte("abc"), saidBehind(3)...))}
	for i := range block {
		var b [block]byte
		b[i] = 1 << (i % 8)
		l = append(l, b)
	}
	for seed := range uint32(20) {
		l = append(l, [block]byte(row(seed, block)))
	}
	return l
}

func TestP4_1PressOfAbc(t *testing.T) {
	h := sha.Press(saidBeginning(), [block]byte(append([]byte("abc"), saidBehind(3)...)))
	want := [8]uint32{0xba7816bf, 0x8f01cfea, 0x414140de, 0x5dae2223, 0xb00361a3, 0x96177a9c, 0xb410ff61, 0xf20015ad}
	if h != want {
		t.Errorf("Press of abc = %x, not %x", h, want)
	}
}

func TestP4_1PressAsTheWordsSay(t *testing.T) {
	k := saidRoots(3, 64)
	for _, h := range states() {
		for _, b := range blocks() {
			if n, want := sha.Press(h, b), saidPress(h, b, k); n != want {
				t.Fatalf("Press(%x, %x) = %x, not %x", h, b, n, want)
			}
		}
	}
}

func TestP4_1BehindOfExamples(t *testing.T) {
	for _, c := range []struct{ n, size int }{
		{0, 64}, {1, 63}, {54, 10}, {55, 9}, {56, 72}, {57, 71}, {63, 65}, {64, 64}, {65, 63}, {119, 9}, {120, 72},
		{1<<32 - 1, 65}, {1 << 32, 64}, {farthest - 9, 9}, {farthest - 8, 72}, {farthest - 1, 65}, {farthest, 64},
	} {
		b, e := sha.Behind(c.n)
		if len(b) != c.size || e != api.OK || !bytes.Equal(b, saidBehind(c.n)) {
			t.Errorf("Behind(%d) = %x, %v", c.n, b, e)
		}
	}
}

func TestP4_1BehindAsTheWordsSay(t *testing.T) {
	for n := range 5000 {
		for _, far := range []int{n, 1<<29 + n, 1<<31 - 2500 + n, 1<<32 - 2500 + n, farthest - n} {
			if b, e := sha.Behind(far); !bytes.Equal(b, saidBehind(far)) || e != api.OK {
				t.Fatalf("Behind(%d) = %x, %v", far, b, e)
			}
		}
	}
}

func TestP4_1BehindOfWrongNumbers(t *testing.T) {
	for _, n := range []int{-1, -2, -8, -9, -64, -farthest, math.MinInt32, math.MinInt, math.MinInt + 1, farthest + 1, farthest + 2, 2 * farthest, 1 << 61, math.MaxInt - 1, math.MaxInt} {
		if b, e := sha.Behind(n); len(b) != 0 || e != api.ErrArg {
			t.Errorf("Behind(%d) = %x, %v", n, b, e)
		}
	}
}

func TestP4_1TwoAnswersOfBehindShareNothing(t *testing.T) {
	one, _ := sha.Behind(3)
	again, _ := sha.Behind(3)
	for i := range one {
		one[i] = 'x'
	}
	if third, _ := sha.Behind(3); !bytes.Equal(again, saidBehind(3)) || !bytes.Equal(third, saidBehind(3)) {
		t.Errorf("answers of Behind share memory: %x, %x", again, third)
	}
}

func TestP4_2SumOfExamples(t *testing.T) {
	for _, c := range []struct{ s, want string }{
		{"", "e3b0c44298fc1c149afbf4c8996fb92427ae41e4649b934ca495991b7852b855"},
		{"abc", "ba7816bf8f01cfea414140de5dae2223b00361a396177a9cb410ff61f20015ad"},
		{"abcdbcdecdefdefgefghfghighijhijkijkljklmklmnlmnomnopnopq", "248d6a61d20638b8e5c026930c3e6039a33ce45964ff2167f6ecedd419db06c1"},
		{strings.Repeat("a", 1000000), "cdc76e5c9914fb9281a1c7e284d73e67f1809a48a497200e046d39ccc7112cd0"},
	} {
		if d := sha.Sum([]byte(c.s)); hex.EncodeToString(d[:]) != c.want {
			t.Errorf("Sum of %d bytes = %x, not %s", len(c.s), d, c.want)
		}
	}
	if sha.Sum(nil) != sha.Sum([]byte{}) {
		t.Error("Sum(nil) is not that of no bytes")
	}
}

func TestP4_2SumIsTheDigestOfTheStandard(t *testing.T) {
	for size := range 400 {
		for _, b := range [][]byte{row(uint32(size), size), make([]byte, size), bytes.Repeat([]byte{0x80}, size), bytes.Repeat([]byte{0xff}, size)} {
			if d := sha.Sum(b); d != sha256.Sum256(b) {
				t.Errorf("Sum(%x) = %x", b, d)
			}
		}
	}
	for _, size := range edges() {
		b := row(uint32(size+1), size)
		if d := sha.Sum(b); d != sha256.Sum256(b) {
			t.Errorf("Sum of %d bytes = %x", size, d)
		}
	}
}

func TestP4_2SumIsWhatPressMakesOfAllBlocks(t *testing.T) {
	for _, size := range edges() {
		b := row(uint32(size), size)
		behind, _ := sha.Behind(size)
		h := saidBeginning()
		for part := range slices.Chunk(slices.Concat(b, behind), block) {
			h = sha.Press(h, [block]byte(part))
		}
		var want []byte
		for _, n := range h {
			want = binary.BigEndian.AppendUint32(want, n)
		}
		if d := sha.Sum(b); !bytes.Equal(d[:], want) {
			t.Errorf("Sum of %d bytes = %x, not %x", size, d, want)
		}
	}
}

func TestP4_2BytesStayAsTheyAre(t *testing.T) {
	for _, size := range edges() {
		room := row(3, size+100)
		was := bytes.Clone(room)
		sha.Sum(room[:size])
		h := sha.New()
		h.Write(room[:size])
		h.Sum()
		if !bytes.Equal(room, was) {
			t.Errorf("of %d bytes: they, or those behind them, were changed", size)
		}
	}
}

// digests: those of no ones, of one bit, of all, and of some bytes.
func digests() []api.Digest {
	l := []api.Digest{{}, api.Digest(bytes.Repeat([]byte{0xff}, 32))}
	for i := range 256 {
		var one, same api.Digest
		one[i/8] = 1 << (i % 8)
		for j := range same {
			same[j] = byte(i)
		}
		l = append(l, one, same, api.Digest(row(uint32(i), 32)))
	}
	return l
}

func TestP4_3TextIsTheDigestsDigits(t *testing.T) {
	for _, d := range digests() {
		if s := sha.Text(d); s != hex.EncodeToString(d[:]) {
			t.Errorf("Text(%x) = %q", [32]byte(d), s)
		}
	}
	if s := sha.Text(api.Digest{0x01, 0xab, 31: 0xf0}); s != "01ab"+strings.Repeat("0", 58)+"f0" {
		t.Errorf("Text = %q", s)
	}
}

func TestP4_3ParseOfExamples(t *testing.T) {
	for _, c := range []struct {
		s string
		d api.Digest
	}{
		{strings.Repeat("0", 64), api.Digest{}},
		{"01ab" + strings.Repeat("0", 58) + "f0", api.Digest{0x01, 0xab, 31: 0xf0}},
		{strings.Repeat("f", 64), api.Digest(bytes.Repeat([]byte{0xff}, 32))},
		{"ba7816bf8f01cfea414140de5dae2223b00361a396177a9cb410ff61f20015ad", sha256.Sum256([]byte("abc"))},
	} {
		if d, e := sha.Parse(c.s); d != c.d || e != api.OK {
			t.Errorf("Parse(%q) = %x, %v", c.s, d, e)
		}
	}
}

func TestP4_3ParseOfWrongTexts(t *testing.T) {
	good := sha.Text(sha.Sum([]byte("abc")))
	l := []string{
		strings.Repeat("A", 64), strings.Repeat("F", 64), strings.Repeat("g", 64), strings.Repeat(" ", 64), strings.Repeat("\x00", 64),
		strings.ToUpper(good), good + "\n", good + " ", " " + good, "0x" + good, "0x" + good[2:], "-" + good[1:], "+" + good[1:], "_" + good[1:],
		strings.Repeat("\u00e9", 32), strings.Repeat("\u0660", 32), strings.Repeat("\uff11", 64), strings.Repeat("\u0661", 64), good + good,
	}
	for size := range 200 {
		if size != 64 {
			l = append(l, strings.Repeat("0", size), strings.Repeat("a1", 100)[:size])
		}
	}
	for _, s := range l {
		if d, e := sha.Parse(s); d != (api.Digest{}) || e != api.ErrForm {
			t.Errorf("Parse(%q) = %x, %v", s, d, e)
		}
	}
}

func TestP4_3ParseOfEachByteAtEachPlace(t *testing.T) {
	good := sha.Text(sha.Sum([]byte("abc")))
	for at := range good {
		for c := range 256 {
			s := good[:at] + string([]byte{byte(c)}) + good[at+1:]
			d, e := sha.Parse(s)
			if strings.IndexByte(figures, byte(c)) < 0 {
				if d != (api.Digest{}) || e != api.ErrForm {
					t.Errorf("Parse(%q) = %x, %v", s, d, e)
				}
				continue
			}
			if hex.EncodeToString(d[:]) != s || e != api.OK {
				t.Errorf("Parse(%q) = %x, %v", s, d, e)
			}
		}
	}
}

// written: a hash of these bytes, each piece a write of its own.
func written(t *testing.T, pieces ...[]byte) *sha.Hash {
	t.Helper()
	h := sha.New()
	for _, b := range pieces {
		if e := h.Write(b); e != api.OK {
			t.Fatalf("Write of %d bytes: %v", len(b), e)
		}
	}
	return h
}

func TestP4_4NewHasNoBytes(t *testing.T) {
	one := sha.New()
	if d := one.Sum(); d != sha256.Sum256(nil) {
		t.Errorf("Sum of no bytes = %x", d)
	}
	one.Write([]byte("abc"))
	if d := sha.New().Sum(); d != sha256.Sum256(nil) {
		t.Errorf("Sum of no bytes, with another hash written to = %x", d)
	}
	for _, none := range [][]byte{nil, {}} {
		if d := written(t, none, []byte("abc"), none, none).Sum(); d != sha256.Sum256([]byte("abc")) {
			t.Errorf("Sum with writes of no bytes = %x", d)
		}
	}
}

func TestP4_4SumSoFar(t *testing.T) {
	b := row(1, 300)
	h := sha.New()
	for i := range b {
		for range 2 { // a sum changes nothing
			if d := h.Sum(); d != sha256.Sum256(b[:i]) {
				t.Fatalf("Sum behind %d bytes = %x", i, d)
			}
		}
		if e := h.Write(b[i : i+1]); e != api.OK {
			t.Fatalf("Write behind %d bytes: %v", i, e)
		}
	}
	if d := h.Sum(); d != sha256.Sum256(b) {
		t.Errorf("Sum = %x", d)
	}
}

func TestP4_4WriteKeepsNothingOfItsBytes(t *testing.T) {
	for _, size := range edges() {
		b := row(uint32(size), size)
		want := sha256.Sum256(b)
		h := written(t, b)
		c := h.Copy()
		for i := range b {
			b[i] ^= 0xff
		}
		if h.Sum() != want || c.Sum() != want {
			t.Errorf("of %d bytes, which were changed behind the writing: %x, %x", size, h.Sum(), c.Sum())
		}
	}
}

func TestP4_4ACopyGoesItsOwnWay(t *testing.T) {
	for _, size := range edges() {
		begun := row(uint32(size), size)
		for _, more := range []int{0, 1, 8, 9, 55, 63, 64, 65, 130} {
			x, y := row(1, more), row(2, more+1)
			h := written(t, begun)
			c := h.Copy()
			d := c.Copy()
			c.Write(x)
			if h.Sum() != sha256.Sum256(begun) || c.Sum() != sha256.Sum256(slices.Concat(begun, x)) {
				t.Fatalf("behind %d bytes, and %d of the copy: %x, %x", size, more, h.Sum(), c.Sum())
			}
			h.Write(y)
			if h.Sum() != sha256.Sum256(slices.Concat(begun, y)) || c.Sum() != sha256.Sum256(slices.Concat(begun, x)) {
				t.Fatalf("behind %d bytes, %d of the copy, and others: %x, %x", size, more, h.Sum(), c.Sum())
			}
			if d.Sum() != sha256.Sum256(begun) || h.Copy().Sum() != h.Sum() {
				t.Fatalf("behind %d bytes: the copy of a copy, or of what went on, is none", size)
			}
		}
	}
}

func TestP4_4HashesThatAreNotThere(t *testing.T) {
	var none *sha.Hash
	for i, h := range []*sha.Hash{none, {}, new(sha.Hash), none.Copy(), new(sha.Hash).Copy()} {
		for _, b := range [][]byte{nil, {}, []byte("abc"), row(1, 64), row(2, 200)} {
			if e := h.Write(b); e != api.ErrNil {
				t.Errorf("%d: Write of %d bytes: %v", i, len(b), e)
			}
			if d := h.Sum(); d != (api.Digest{}) {
				t.Errorf("%d: Sum = %x", i, d)
			}
			if c := h.Copy(); c != nil {
				t.Errorf("%d: Copy = %v", i, c)
			}
		}
	}
}

// cuts: b, cut into pieces in ways of all kinds.
func cuts(b []byte) [][][]byte {
	var ways [][][]byte
	for size := 1; size <= 200; size++ {
		ways = append(ways, slices.Collect(slices.Chunk(b, size)))
	}
	for seed := range uint32(100) {
		var pieces [][]byte
		rest := b
		for _, c := range row(seed, len(b)) {
			size := min(int(c)%150, len(rest)) // pieces without bytes too
			pieces = append(pieces, rest[:size])
			rest = rest[size:]
		}
		ways = append(ways, append(pieces, rest))
	}
	return ways
}

func TestP4_5HoweverBytesAreCut(t *testing.T) {
	for _, size := range []int{0, 1, 55, 56, 63, 64, 65, 119, 128, 500} {
		b := row(uint32(size), size)
		for i, pieces := range cuts(b) {
			if d := written(t, pieces...).Sum(); d != sha.Sum(b) || d != sha256.Sum256(b) {
				t.Errorf("%d bytes, cut in way %d: Sum = %x", size, i, d)
			}
		}
	}
}

func TestP4_5WhereverBytesAreCutTwice(t *testing.T) {
	b := row(5, 200)
	want := sha.Sum(b)
	for one := range len(b) + 1 {
		for two := one; two <= len(b); two++ {
			if d := written(t, b[:one], b[one:two], b[two:]).Sum(); d != want {
				t.Fatalf("cut at %d and %d: Sum = %x", one, two, d)
			}
		}
	}
}

func TestP4_5TextsAndDigestsAreOne(t *testing.T) {
	for _, d := range digests() {
		back, e := sha.Parse(sha.Text(d))
		if back != d || e != api.OK {
			t.Errorf("Parse of Text of %x = %x, %v", [32]byte(d), back, e)
		}
	}
	for seed := range uint32(1000) {
		s := make([]byte, 64)
		for i, c := range row(seed, 64) {
			s[i] = figures[c%16]
		}
		d, e := sha.Parse(string(s))
		if sha.Text(d) != string(s) || e != api.OK {
			t.Errorf("Text of Parse of %s = %s, %v", s, sha.Text(d), e)
		}
	}
}

func TestP4_5WhatStandsBehindFillsBlocksAndTellsTheBits(t *testing.T) {
	check := func(n int) {
		b, e := sha.Behind(n)
		if e != api.OK || len(b) < 9 || len(b) > 72 || (n+len(b))%block != 0 {
			t.Fatalf("Behind(%d) = %x, %v", n, b, e)
		}
		if bits := binary.BigEndian.Uint64(b[len(b)-8:]); bits != 8*uint64(n) {
			t.Fatalf("Behind(%d) tells of %d bits", n, bits)
		}
	}
	for n := range 1000 {
		check(n)
		check(farthest - n)
	}
	for k := range 41 {
		check(1 << k)
		check(1<<k - 1)
	}
}
