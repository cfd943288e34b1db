package pack_test

import (
	"encoding/binary"
	"math/big"
	"slices"

	"stook/api"
	"stook/draw"
)

// What the chapter's words say, in numbers of any size and with the library's varints, and rows to hold it against.

const (
	mostTokens    = 65536
	greatestToken = 1048575
)

// saidFold: 2 n, if n is not below 0, else -2 n - 1.
func saidFold(n *big.Int) *big.Int {
	if n.Sign() >= 0 {
		return new(big.Int).Mul(n, big.NewInt(2))
	}
	u := new(big.Int).Mul(n, big.NewInt(-2))
	return u.Sub(u, big.NewInt(1))
}

// saidUnfold: the n of which u is that: of the two that it may be, the one whose Fold it is.
func saidUnfold(u uint64) *big.Int {
	half := new(big.Int).SetUint64(u/2 + u%2)
	for _, n := range []*big.Int{half, new(big.Int).Neg(half)} {
		if saidFold(n).Cmp(new(big.Int).SetUint64(u)) == 0 {
			return n
		}
	}
	panic("there is always one")
}

// saidPut: a row's bytes, or why it has none.
func saidPut(l []int) ([]byte, api.Errno) {
	if len(l) > mostTokens {
		return nil, api.ErrLimit
	}
	b := binary.AppendUvarint(nil, uint64(len(l)))
	for i, token := range l {
		if token < 0 || token > greatestToken {
			return nil, api.ErrArg
		}
		difference := big.NewInt(int64(token))
		if i > 0 {
			difference.Sub(difference, big.NewInt(int64(l[i-1])))
		}
		b = binary.AppendUvarint(b, saidFold(difference).Uint64())
	}
	return b, api.OK
}

// saidNumber: what leb.Get says of a place.
func saidNumber(b []byte, at int) (n uint64, next int, e api.Errno) {
	if at < 0 || at > len(b) {
		return 0, 0, api.ErrArg
	}
	n, size := binary.Uvarint(b[at:])
	switch {
	case size == 0 && len(b)-at < 10:
		return 0, 0, api.ErrShort
	case size <= 0 || size > 1 && b[at+size-1] == 0:
		return 0, 0, api.ErrForm
	}
	return n, at + size, api.OK
}

// saidGet: what P12.3 says, clause by clause.
func saidGet(b []byte, at int) ([]int, int, api.Errno) {
	count, next, e := saidNumber(b, at)
	if e != api.OK {
		return nil, 0, e
	}
	if count > mostTokens {
		return nil, 0, api.ErrLimit
	}
	var l []int
	ahead := big.NewInt(0)
	for range count {
		var n uint64
		n, next, e = saidNumber(b, next)
		if e != api.OK {
			return nil, 0, e
		}
		ahead = saidUnfold(n).Add(saidUnfold(n), ahead)
		if ahead.Sign() < 0 || ahead.Cmp(big.NewInt(greatestToken)) > 0 {
			return nil, 0, api.ErrForm
		}
		l = append(l, int(ahead.Int64()))
	}
	return l, next, api.OK
}

// chance: numbers by a seed.
type chance struct{ state uint64 }

func (c *chance) word() uint64 {
	n, next := draw.Next(c.state)
	c.state = next
	return n
}

func (c *chance) below(bound int) int {
	n, next, _ := draw.Below(c.state, uint64(bound))
	c.state = next
	return int(n)
}

// tokens: so many, all below that.
func (c *chance) tokens(n, bound int) []int {
	var l []int
	for range n {
		l = append(l, c.below(bound))
	}
	return l
}

// rows: rows of tokens that may be, of each length at which something changes.
func rows() [][]int {
	c := &chance{12}
	l := [][]int{nil, {}, {0}, {5, 3, 300}, {greatestToken}, {0, greatestToken, 0}, {greatestToken, 0, greatestToken}, {7, 7, 7}}
	for _, n := range []int{1, 2, 3, 5, 63, 64, 126, 127, 128, 129, 300, 4096, 16383, 16384, 16385, 65535, 65536} {
		for _, bound := range []int{2, 64, 300, 4096, greatestToken + 1} {
			l = append(l, c.tokens(n, bound))
		}
	}
	// Differences at which the number of bytes changes, up and down.
	for _, d := range []int{1, 63, 64, 65, 127, 128, 8191, 8192, 8193, 16384, 1 << 19, greatestToken} {
		l = append(l, []int{0, d, 0}, []int{greatestToken, greatestToken - d, greatestToken}, []int{d})
	}
	return l
}

// edges: numbers with a sign at which something changes, and their neighbours.
func edges() []int64 {
	l := []int64{0, 1, -1, 2, -2, 5, -5, 300, -300}
	for place := range 63 {
		for near := int64(-2); near <= 2; near++ {
			l = append(l, 1<<place+near, -1<<place+near)
		}
	}
	for near := range int64(3) {
		l = append(l, -1<<63+near, 1<<63-1-near)
	}
	slices.Sort(l)
	return slices.Compact(l)
}

// lists: each one of up to so many of these.
func lists[T any](kinds []T, most int) [][]T {
	all := [][]T{nil}
	for from := 0; most > 0; most-- {
		upTo := len(all)
		for _, list := range all[from:upTo] {
			for _, x := range kinds {
				all = append(all, append(slices.Clone(list), x))
			}
		}
		from = upTo
	}
	return all
}
