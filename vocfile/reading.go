package vocfile

import (
	"bytes"
	"math"

	"stook/api"
	"stook/leb"
	"stook/vocab"
)

// fault is why bytes are no file, and the place at which that shows.
type fault struct {
	e  api.Errno
	at int
}

// reading is a file on its way in: the place up to which it is read, the pieces so far, and where each of them begins.
// Its methods leave by a panic of a fault, so that none but read has to ask whether there was one.
type reading struct {
	b      []byte
	at     int
	pieces []api.Piece
	places []int
}

// read answers the vocabulary whose file it is, and no fault; or the first fault.
func read(b []byte) (v api.Vocab, why fault) {
	defer func() {
		if left := recover(); left != nil {
			v, why = api.Vocab{}, left.(fault)
		}
	}()
	r := &reading{b: b}
	r.opening()
	for range r.number(api.MaxPieces) {
		r.places = append(r.places, r.at)
		r.pieces = append(r.pieces, r.piece())
	}
	// What is wrong at no piece shows at the sum.
	r.places = append(r.places, r.at)
	r.sum()
	return r.vocabulary(), fault{}
}

// opening goes behind the bytes with which each file begins.
func (r *reading) opening() {
	if !bytes.HasPrefix(r.b, []byte(opening)) {
		panic(fault{api.ErrForm, 0})
	}
	r.at = len(opening)
}

// piece answers the next piece.
func (r *reading) piece() api.Piece {
	begin := r.at
	switch r.cut(1)[0] {
	case byteMark:
		return api.Piece{Byte: r.cut(1)[0]}
	case joinMark:
		left := r.number(api.MaxPieces - 1)
		right := r.number(api.MaxPieces - 1)
		rank := r.number(math.MaxUint32)
		return api.Piece{Join: true, Left: int(left), Right: int(right), Rank: uint32(rank)}
	default:
		panic(fault{api.ErrForm, begin})
	}
}

// sum goes behind the sum, with which the bytes end.
func (r *reading) sum() {
	begin := r.at
	ahead := r.b[:begin:begin]
	if [sumSize]byte(r.cut(sumSize)) != sumOf(ahead) {
		panic(fault{api.ErrSum, begin})
	}
	if r.at < len(r.b) {
		panic(fault{api.ErrForm, r.at})
	}
}

// vocabulary answers the vocabulary of the pieces.
func (r *reading) vocabulary() api.Vocab {
	v := api.Vocab{Pieces: r.pieces}
	if e, piece := vocab.Check(v); e != api.OK {
		panic(fault{api.ErrVocab, r.places[piece]})
	}
	return v
}

// number answers the next number, which is at most so great.
func (r *reading) number(most uint64) uint64 {
	n, next, e := leb.Get(r.b, r.at)
	if e != api.OK {
		panic(fault{e, r.at})
	}
	if n > most {
		panic(fault{api.ErrLimit, r.at})
	}
	r.at = next
	return n
}

// cut answers the next so many bytes.
func (r *reading) cut(size int) []byte {
	if len(r.b)-r.at < size {
		panic(fault{api.ErrShort, len(r.b)})
	}
	end := r.at + size
	row := r.b[r.at:end:end]
	r.at = end
	return row
}
