package bpe_test

import (
	"slices"

	"stook/api"
	"stook/draw"
	"stook/vocab"
)

// What the chapter's words say, one step behind the other, and vocabularies and rows to hold it against.

func join(left, right int, rank uint32) api.Piece {
	return api.Piece{Join: true, Left: left, Right: right, Rank: rank}
}

func of(l ...api.Piece) api.Vocab { return api.Vocab{Pieces: l} }

// with: the bytes, rising, and these pieces behind them.
func with(l ...api.Piece) api.Vocab { return of(append(vocab.Plain().Pieces, l...)...) }

// example: the V of the chapter's examples.
func example() api.Vocab { return with(join(97, 98, 5), join(256, 99, 2), join(98, 99, 9)) }

// doubles: n joins, each of the one ahead of it with itself: of 2 bytes a, 4, and so on; up to 256 with 8 of them.
func doubles(n int, rank func(i int) uint32) []api.Piece {
	l := []api.Piece{join(97, 97, rank(0))}
	for i := 1; i < n; i++ {
		l = append(l, join(255+i, 255+i, rank(i)))
	}
	return l
}

func rising(i int) uint32  { return uint32(i) }
func falling(i int) uint32 { return 1000 - uint32(i) }

// chance: numbers by a seed.
type chance struct{ state uint64 }

func (c *chance) below(bound int) int {
	n, next, _ := draw.Below(c.state, uint64(bound))
	c.state = next
	return int(n)
}

// bytes: so many of these letters.
func (c *chance) bytes(letters string, n int) []byte {
	var b []byte
	for range n {
		b = append(b, letters[c.below(len(letters))])
	}
	return b
}

// among: a vocabulary of these letters, so many joins of them and of joins, and behind them all other bytes: so that no
// byte of more than a few is the token of its own number, and joins stand ahead of bytes.
func among(seed uint64, letters string, joins int) api.Vocab {
	c := &chance{seed}
	var v api.Vocab
	var sizes []int
	for _, b := range []byte(letters) {
		v.Pieces = append(v.Pieces, api.Piece{Byte: b})
		sizes = append(sizes, 1)
	}
	for joins > 0 {
		p := join(c.below(len(sizes)), c.below(len(sizes)), uint32(1<<20+c.below(1<<20)))
		size := sizes[p.Left] + sizes[p.Right]
		if size > 256 || slices.ContainsFunc(v.Pieces, func(q api.Piece) bool {
			return q.Join && (q.Left == p.Left && q.Right == p.Right || q.Rank == p.Rank)
		}) {
			continue
		}
		v.Pieces = append(v.Pieces, p)
		sizes = append(sizes, size)
		joins--
	}
	for c := range 256 {
		if !slices.Contains([]byte(letters), byte(c)) {
			v.Pieces = append(v.Pieces, api.Piece{Byte: byte(c)})
		}
	}
	return v
}

// right: vocabularies that may be, all of whose joins are of the letters a to d.
func right() map[string]api.Vocab {
	return map[string]api.Vocab{
		"plain":           with(),
		"example":         example(),
		"doubles":         with(doubles(8, rising)...),
		"doubles falling": with(doubles(8, falling)...),
		"any ranks":       with(join(97, 98, 0), join(98, 97, 1<<32-1), join(256, 97, 1<<31), join(97, 97, 1<<31-1), join(98, 98, 1)),
		"one":             among(1, "a", 7),
		"two":             among(2, "ba", 20),
		"three":           among(3, "cba", 60),
		"four":            among(4, "dbca", 600),
		"full":            among(5, "cab", 3840),
	}
}

// wrong: vocabularies that may not be.
func wrong() map[string]api.Vocab {
	return map[string]api.Vocab{
		"none":              {},
		"a byte is missing": of(with().Pieces[1:]...),
		"a byte twice":      with(api.Piece{Byte: 5}),
		"too many":          of(append(among(5, "cab", 3840).Pieces, join(2, 4000, 0))...),
		"too long":          with(doubles(9, rising)...),
		"a rank twice":      with(join(97, 98, 5), join(256, 99, 5)),
		"a pair twice":      with(join(97, 98, 5), join(97, 98, 2)),
		"of itself":         with(join(97, 256, 5)),
		"a join's byte":     with(api.Piece{Join: true, Byte: 97, Left: 97, Right: 98}),
		"a byte's rank":     with(api.Piece{Byte: 97, Rank: 1}),
	}
}

// said: a vocabulary that may be, as the words say what becomes of rows by it.
type said struct {
	pieces []api.Piece
	joins  map[[2]int]int
}

func saidOf(v api.Vocab) said {
	s := said{v.Pieces, map[[2]int]int{}}
	for token, p := range v.Pieces {
		if p.Join {
			s.joins[[2]int{p.Left, p.Right}] = token
		}
	}
	return s
}

// begin: the row that one begins with.
func (s said) begin(b []byte) []int {
	var l []int
	for _, c := range b {
		l = append(l, slices.Index(s.pieces, api.Piece{Byte: c}))
	}
	return l
}

// step: the row behind a step, and whether there was one.
func (s said) step(l []int) ([]int, bool) {
	place, token := -1, -1
	for i := len(l) - 2; i >= 0; i-- {
		j, can := s.joins[[2]int{l[i], l[i+1]}]
		if can && (place < 0 || s.pieces[j].Rank <= s.pieces[token].Rank) {
			place, token = i, j
		}
	}
	if place < 0 {
		return l, false
	}
	var out []int
	out = append(out, l[:place]...)
	out = append(out, token)
	return append(out, l[place+2:]...), true
}

// tokens: the tokens of the bytes.
func (s said) tokens(b []byte) []int {
	l, did := s.step(s.begin(b))
	for did {
		l, did = s.step(l)
	}
	return l
}

// bytes: those of the tokens.
func (s said) bytes(l ...int) []byte {
	var b []byte
	for _, token := range l {
		if p := s.pieces[token]; p.Join {
			b = append(b, s.bytes(p.Left, p.Right)...)
		} else {
			b = append(b, p.Byte)
		}
	}
	return b
}

// rows: each row of up to so many of these.
func rows[T any](kinds []T, most int) [][]T {
	all := [][]T{nil}
	for from := 0; most > 0; most-- {
		upTo := len(all)
		for _, row := range all[from:upTo] {
			for _, x := range kinds {
				all = append(all, append(slices.Clone(row), x))
			}
		}
		from = upTo
	}
	return all
}
