package vocab

import (
	"slices"

	"stook/api"
)

// seen is what there is of a vocabulary so far, while its pieces are gone through: which bytes, which ranks, which
// pairs of tokens, and how many bytes each token has.
type seen struct {
	bytes [byteCount]bool
	ranks map[uint32]struct{}
	pairs map[[2]int]struct{}
	sizes []int
}

// newSeen answers what there is of a vocabulary of so many pieces ahead of the first one.
func newSeen(pieces int) *seen {
	// Where nothing is wrong, this many are no bytes.
	joins := max(pieces-byteCount, 0)
	return &seen{
		ranks: make(map[uint32]struct{}, joins),
		pairs: make(map[[2]int]struct{}, joins),
		sizes: make([]int, 0, pieces),
	}
}

// add takes the next piece in, or answers what is wrong with it.
func (s *seen) add(p api.Piece) api.Errno {
	if p.Join {
		return s.addJoin(p)
	}
	return s.addByte(p)
}

// addByte takes the next piece in, which is a byte.
func (s *seen) addByte(p api.Piece) api.Errno {
	if p != (api.Piece{Byte: p.Byte}) {
		return api.ErrForm
	}
	if s.bytes[p.Byte] {
		return api.ErrTwice
	}
	s.bytes[p.Byte] = true
	s.sizes = append(s.sizes, 1)
	return api.OK
}

// addJoin takes the next piece in, which is a join.
func (s *seen) addJoin(p api.Piece) api.Errno {
	if p.Byte != 0 {
		return api.ErrForm
	}
	if !s.has(p.Left) || !s.has(p.Right) {
		return api.ErrArg
	}
	size := s.sizes[p.Left] + s.sizes[p.Right]
	if size > api.MaxPiece {
		return api.ErrLimit
	}
	pair := [2]int{p.Left, p.Right}
	_, pairThere := s.pairs[pair]
	_, rankThere := s.ranks[p.Rank]
	if pairThere || rankThere {
		return api.ErrTwice
	}
	s.pairs[pair], s.ranks[p.Rank] = struct{}{}, struct{}{}
	s.sizes = append(s.sizes, size)
	return api.OK
}

// has answers whether the token stands ahead of the next piece.
func (s *seen) has(token int) bool {
	return token >= 0 && token < len(s.sizes)
}

// allBytes answers whether each byte is there.
func (s *seen) allBytes() bool {
	return !slices.Contains(s.bytes[:], false)
}
