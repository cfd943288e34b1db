package vocfile_test

import (
	"bytes"
	"crypto/sha256"
	"encoding/binary"
	"fmt"
	"hash/crc32"
	"math"
	"slices"

	"stook/api"
	"stook/draw"
	"stook/vocab"
)

// What the chapter's words say, read without the packages whose bytes they are: by the library's numbers and sums.

func join(left, right int, rank uint32) api.Piece {
	return api.Piece{Join: true, Left: left, Right: right, Rank: rank}
}

func of(l ...api.Piece) api.Vocab { return api.Vocab{Pieces: l} }

// with: the bytes, rising, and these pieces behind them.
func with(l ...api.Piece) api.Vocab {
	v := of()
	for c := range 256 {
		v.Pieces = append(v.Pieces, api.Piece{Byte: byte(c)})
	}
	v.Pieces = append(v.Pieces, l...)
	return v
}

// pairs: n joins of the bytes.
func pairs(n int) []api.Piece {
	var l []api.Piece
	for i := range n {
		l = append(l, join(i/256, i%256, uint32(n-i)))
	}
	return l
}

// grown: a vocabulary that may be, of the bytes, falling, and of so many joins, the first ones of which stand between the
// bytes, with ranks of all lengths.
func grown(seed uint64, joins int) api.Vocab {
	v := with()
	slices.Reverse(v.Pieces)
	state := seed
	next := func(bound int) int {
		var n uint64
		n, state, _ = draw.Below(state, uint64(bound))
		return int(n)
	}
	// Each join stands behind the one ahead of it, so that none moves a token of which there is a join.
	for at := 20; joins > 0; {
		p := join(next(at), next(at), uint32(next(1<<(1+next(32)))))
		w := of(slices.Insert(slices.Clone(v.Pieces), at, p)...)
		if e, _ := vocab.Check(w); e == api.OK {
			v, joins = w, joins-1
			at = min(at+1+next(3), len(v.Pieces))
		}
	}
	return v
}

// right: vocabularies that may be.
func right() map[string]api.Vocab {
	m := map[string]api.Vocab{
		"plain":     with(),
		"example":   with(join(97, 98, 5), join(256, 99, 2)),
		"any ranks": with(join(0, 0, 0), join(1, 127, 127), join(127, 128, 128), join(255, 256, math.MaxUint32), join(2, 2, 1<<31)),
		"full":      with(append(pairs(3839), join(0, 4094, 9999))...),
	}
	for i, joins := range []int{1, 5, 60, 200} {
		m[fmt.Sprintf("grown with %d joins", joins)] = grown(uint64(i), joins)
	}
	return m
}

// wrong: vocabularies that may not be; all but those that have no file have one that Get reads up to its end, and where
// that shows what is wrong: at which piece.
func wrong() []struct {
	what   string
	v      api.Vocab
	piece  int
	noFile bool
} {
	long := []api.Piece{join(97, 97, 0)}
	for i := 1; i < 9; i++ {
		long = append(long, join(255+i, 255+i, uint32(i)))
	}
	return []struct {
		what   string
		v      api.Vocab
		piece  int
		noFile bool
	}{
		{"none", of(), 0, false},
		{"a byte alone", of(api.Piece{Byte: 5}), 1, false},
		{"the first byte is missing", of(with().Pieces[1:]...), 255, false},
		{"the last byte is missing", of(with().Pieces[:255]...), 255, false},
		{"a byte twice", with(api.Piece{Byte: 5}), 256, false},
		{"a byte twice, another one missing", of(slices.Replace(with().Pieces, 9, 10, api.Piece{})...), 9, false},
		{"a byte twice among joins", with(join(97, 98, 300), api.Piece{Byte: 255}, join(97, 98, 300)), 257, false},
		{"too long", with(long...), 264, false},
		{"a rank twice", with(join(97, 98, 5), join(256, 99, 5)), 257, false},
		{"a pair twice", with(join(97, 98, 5), join(97, 98, 2)), 257, false},
		{"of itself", with(join(97, 256, 5)), 256, false},
		{"of one behind it", with(join(4095, 97, 5)), 256, false},
		{"of itself, first", of(join(0, 0, 0)), 0, false},
		{"the last of the most", with(append(pairs(3839), join(0, 0, 9999))...), 4095, false},
		{"too many", with(pairs(3841)...), 0, true},
		{"a join's byte", with(api.Piece{Join: true, Byte: 97, Left: 97, Right: 98}), 256, true},
		{"a byte's rank", with(api.Piece{Byte: 97, Rank: 1}), 256, true},
		{"a byte's tokens", of(append([]api.Piece{{Left: 1, Right: 2}}, with().Pieces[1:]...)...), 0, true},
		{"of what is below 0", with(join(-1, 97, 5)), 256, true},
		{"of what is no number of a file", with(join(97, math.MaxInt, 5)), 256, true},
	}
}

// saidSummed: the bytes and the sum of them behind them.
func saidSummed(ahead []byte) []byte {
	sum := crc32.Checksum(ahead, crc32.MakeTable(crc32.Castagnoli))
	return binary.LittleEndian.AppendUint32(bytes.Clone(ahead), sum)
}

// bare: the six bytes, and these behind them.
func bare(rest ...byte) []byte { return append([]byte("stookv"), rest...) }

// saidPut: the file of the pieces, whether they may be or not, and the place of each piece, and of the sum.
func saidPut(v api.Vocab) (b []byte, places []int) {
	b = binary.AppendUvarint(bare(), uint64(len(v.Pieces)))
	for _, p := range v.Pieces {
		places = append(places, len(b))
		if !p.Join {
			b = append(b, 0, p.Byte)
			continue
		}
		b = append(b, 1)
		b = binary.AppendUvarint(b, uint64(p.Left))
		b = binary.AppendUvarint(b, uint64(p.Right))
		b = binary.AppendUvarint(b, uint64(p.Rank))
	}
	return saidSummed(b), append(places, len(b))
}

// saidId: the number of the vocabulary whose file it is.
func saidId(file []byte) uint64 {
	d := sha256.Sum256(file)
	return binary.BigEndian.Uint64(d[:8])
}

// saidNumber: the number at that place, which is at most so great, and the place behind it; or why there is none.
func saidNumber(b []byte, at int, most uint64) (n uint64, next int, e api.Errno) {
	n, size := binary.Uvarint(b[at:])
	switch {
	case size == 0 && len(b)-at < 10:
		return 0, 0, api.ErrShort
	case size <= 0 || size > 1 && b[at+size-1] == 0:
		return 0, 0, api.ErrForm
	case n > most:
		return 0, 0, api.ErrLimit
	}
	return n, at + size, api.OK
}

// saidPiece: the piece at that place, and the place behind it; or why there is none, and the place of that.
func saidPiece(b []byte, at int) (p api.Piece, next int, e api.Errno) {
	switch {
	case at == len(b):
		return p, len(b), api.ErrShort
	case b[at] > 1:
		return p, at, api.ErrForm
	case b[at] == 0 && at+1 == len(b):
		return p, len(b), api.ErrShort
	case b[at] == 0:
		return api.Piece{Byte: b[at+1]}, at + 2, api.OK
	}
	next = at + 1
	var numbers [3]uint64
	for i, most := range []uint64{4095, 4095, 1<<32 - 1} {
		n, behind, e := saidNumber(b, next, most)
		if e != api.OK {
			return p, next, e
		}
		numbers[i], next = n, behind
	}
	return join(int(numbers[0]), int(numbers[1]), uint32(numbers[2])), next, api.OK
}

// saidGet: what P9.2 says, clause by clause.
func saidGet(b []byte) (v api.Vocab, at int, e api.Errno) {
	if len(b) < 6 || string(b[:6]) != "stookv" {
		return of(), 0, api.ErrForm
	}
	count, next, e := saidNumber(b, 6, 4096)
	if e != api.OK {
		return of(), 6, e
	}
	var places []int
	for range count {
		p, behind, e := saidPiece(b, next)
		if e != api.OK {
			return of(), behind, e
		}
		v.Pieces = append(v.Pieces, p)
		places = append(places, next)
		next = behind
	}
	switch {
	case len(b) < next+4:
		return of(), len(b), api.ErrShort
	case !bytes.Equal(saidSummed(b[:next]), b[:next+4]):
		return of(), next, api.ErrSum
	case len(b) > next+4:
		return of(), next + 4, api.ErrForm
	}
	if e, piece := vocab.Check(v); e != api.OK {
		return of(), append(places, next)[piece], api.ErrVocab
	}
	return v, 0, api.OK
}
