package record_test

import (
	"bytes"
	"crypto/sha256"
	"encoding/binary"
	"math"
	"slices"
	"strings"

	"stook/api"
	"stook/bpe"
	"stook/draw"
	"stook/pack"
	"stook/vocab"
)

// What the chapter's words say, clause by clause, and vocabularies, documents and records to hold it against. The digests, and
// the numbers as bytes, are the library's.

const (
	mostBytes = 4096
	shortest  = 40
)

// saidBytes: the bytes of the record, whether it may be or not.
func saidBytes(r api.Record, tokens []byte) []byte {
	b := append([]byte{}, r.Digest[:]...)
	b = binary.LittleEndian.AppendUint64(b, r.Vocab)
	b = binary.AppendUvarint(b, uint64(r.Length))
	return append(b, tokens...)
}

// saidPut: what P13.1 says of Put.
func saidPut(r api.Record) ([]byte, api.Errno) {
	if r.Length < 0 || r.Length > mostBytes {
		return nil, api.ErrArg
	}
	tokens, e := pack.Put(r.Tokens)
	if e != api.OK {
		return nil, e
	}
	return saidBytes(r, tokens), api.OK
}

// saidLength: the number (leb) at the beginning of these bytes, how many bytes it has, and the error.
func saidLength(b []byte) (uint64, int, api.Errno) {
	n, size := binary.Uvarint(b)
	switch {
	case size < 0, size == 0 && len(b) >= 10:
		return 0, 0, api.ErrForm
	case size == 0:
		return 0, 0, api.ErrShort
	case size > 1 && b[size-1] == 0:
		return 0, 0, api.ErrForm
	}
	return n, size, api.OK
}

// saidGet: what P13.1 says of Get.
func saidGet(b []byte) (api.Record, api.Errno) {
	if len(b) < shortest {
		return api.Record{}, api.ErrShort
	}
	length, size, e := saidLength(b[shortest:])
	if e != api.OK {
		return api.Record{}, e
	}
	if length > mostBytes {
		return api.Record{}, api.ErrLimit
	}
	l, next, e := pack.Get(b, shortest+size)
	if e != api.OK {
		return api.Record{}, e
	}
	if next != len(b) {
		return api.Record{}, api.ErrForm
	}
	r := api.Record{Vocab: binary.LittleEndian.Uint64(b[32:]), Length: int(length), Tokens: l}
	copy(r.Digest[:], b)
	return r, api.OK
}

// saidOf: what P13.2 says of Of.
func saidOf(v api.Vocab, id uint64, doc []byte) (api.Record, api.Errno) {
	if e, _ := vocab.Check(v); e != api.OK {
		return api.Record{}, api.ErrVocab
	}
	if len(doc) > mostBytes {
		return api.Record{}, api.ErrTooLarge
	}
	l, e := bpe.Encode(v, doc)
	return api.Record{Digest: sha256.Sum256(doc), Vocab: id, Length: len(doc), Tokens: l}, e
}

// saidDoc: what P13.2 says of Doc.
func saidDoc(v api.Vocab, r api.Record) ([]byte, api.Errno) {
	b, e := bpe.Decode(v, r.Tokens)
	if e != api.OK {
		return nil, e
	}
	if len(b) != r.Length || sha256.Sum256(b) != r.Digest {
		return nil, api.ErrSum
	}
	return b, api.OK
}

// saidRight: what P13.2 says of Right.
func saidRight(v api.Vocab, r api.Record) bool {
	b, e := saidDoc(v, r)
	if e != api.OK {
		return false
	}
	own, e := saidOf(v, r.Vocab, b)
	return e == api.OK && same(own, r)
}

// same: whether the two are one record; lists that are nil and lists without elements are the same.
func same(a, b api.Record) bool {
	return a.Digest == b.Digest && a.Vocab == b.Vocab && a.Length == b.Length && slices.Equal(a.Tokens, b.Tokens)
}

// zero: whether nothing is in the record.
func zero(r api.Record) bool { return same(r, api.Record{}) }

func join(left, right int, rank uint32) api.Piece {
	return api.Piece{Join: true, Left: left, Right: right, Rank: rank}
}

func of(l ...api.Piece) api.Vocab { return api.Vocab{Pieces: l} }

// with: the bytes, rising, and these pieces behind them.
func with(l ...api.Piece) api.Vocab { return of(append(vocab.Plain().Pieces, l...)...) }

// example: the V of the chapter's examples, which is chapter 10's.
func example() api.Vocab { return with(join(97, 98, 5), join(256, 99, 2), join(98, 99, 9)) }

// doubles: n joins, each of the one ahead of it with itself: of 2 bytes a, 4, and so on; up to 256 with 8 of them.
func doubles(n int) []api.Piece {
	l := []api.Piece{join(97, 97, 100)}
	for i := 1; i < n; i++ {
		l = append(l, join(255+i, 255+i, uint32(100-i)))
	}
	return l
}

// among: the bytes falling, and so many joins of the letters a to c and of such joins behind them: no byte of those is the
// token of its own number.
func among(seed uint64, joins int) api.Vocab {
	c := &chance{seed}
	v := with()
	slices.Reverse(v.Pieces)
	tokens, sizes := []int{158, 157, 156}, []int{1, 1, 1}
	for len(tokens) < 3+joins {
		left, right := c.below(len(tokens)), c.below(len(tokens))
		p := join(tokens[left], tokens[right], uint32(c.below(1<<30)))
		size := sizes[left] + sizes[right]
		if size > 256 || slices.ContainsFunc(v.Pieces, func(q api.Piece) bool {
			return q.Join && (q.Left == p.Left && q.Right == p.Right || q.Rank == p.Rank)
		}) {
			continue
		}
		tokens, sizes = append(tokens, len(v.Pieces)), append(sizes, size)
		v.Pieces = append(v.Pieces, p)
	}
	return v
}

// right: vocabularies that may be.
func right() map[string]api.Vocab {
	return map[string]api.Vocab{
		"plain":   with(),
		"example": example(),
		"doubles": with(doubles(8)...),
		"few":     among(1, 9),
		"many":    among(2, 500),
		"full":    among(3, 3840),
	}
}

// wrong: vocabularies that may not be.
func wrong() map[string]api.Vocab {
	return map[string]api.Vocab{
		"none":              {},
		"a byte is missing": of(with().Pieces[1:]...),
		"a byte twice":      with(api.Piece{Byte: 5}),
		"too many":          of(append(among(3, 3840).Pieces, join(0, 0, 1<<31))...),
		"too long":          with(doubles(9)...),
		"a rank twice":      with(join(97, 98, 5), join(256, 99, 5)),
		"a pair twice":      with(join(97, 98, 5), join(97, 98, 2)),
		"of itself":         with(join(97, 256, 5)),
		"a join's byte":     with(api.Piece{Join: true, Byte: 97, Left: 97, Right: 98}),
	}
}

// chance: numbers by a seed.
type chance struct{ state uint64 }

func (c *chance) word() uint64 {
	n, next := draw.Next(c.state)
	c.state = next
	return n
}

func (c *chance) below(bound int) int {
	n, next, _ := draw.Below(c.state, uint64(bound))
	c.state = next
	return int(n)
}

// text: so many of these letters.
func (c *chance) text(letters string, n int) []byte {
	var b []byte
	for range n {
		b = append(b, letters[c.below(len(letters))])
	}
	return b
}

// tokens: so many, all below that.
func (c *chance) tokens(n, bound int) []int {
	var l []int
	for range n {
		l = append(l, c.below(bound))
	}
	return l
}

// digest: one that no document has, as far as one knows.
func (c *chance) digest() api.Digest {
	var d api.Digest
	for i := range d {
		d[i] = byte(c.word())
	}
	return d
}

// splits: all rows of these tokens whose bytes, which stand in texts, are the document's.
func splits(doc string, tokens []int, texts []string) [][]int {
	if doc == "" {
		return [][]int{nil}
	}
	var all [][]int
	for i, text := range texts {
		rest, is := strings.CutPrefix(doc, text)
		if !is {
			continue
		}
		for _, l := range splits(rest, tokens, texts) {
			all = append(all, append([]int{tokens[i]}, l...))
		}
	}
	return all
}

// docs: documents that may be, of each length at which something changes.
func docs() [][]byte {
	c := &chance{13}
	l := [][]byte{nil, {}, {0}, {255}, {0, 0}, []byte("abc"), []byte("abcab"), bytes.Repeat([]byte("a"), 4096), make([]byte, 4096)}
	for _, n := range []int{1, 2, 3, 55, 56, 63, 64, 65, 127, 128, 129, 255, 256, 257, 1000, 4095, 4096} {
		l = append(l, c.text("abc", n), c.text("a\x00\x7f\x80\xff", n))
	}
	var all []byte
	for i := range 256 {
		all = append(all, byte(i))
	}
	return append(l, all)
}

// numbers: numbers of vocabularies, each of whose bytes shows where it stands in one of them.
func numbers() []uint64 {
	l := []uint64{0, 1, 7, 0x0102030405060708, 0xf0e1d2c3b4a59687, math.MaxInt64, 1 << 63, math.MaxUint64 - 1, math.MaxUint64}
	for place := range 64 {
		l = append(l, 1<<place, math.MaxUint64>>place)
	}
	return l
}

// lengths: those that may be, at the edges of what may be and of how many bytes the number has.
func lengths() []int { return []int{0, 1, 2, 127, 128, 129, 255, 256, 4094, 4095, 4096} }

// notLengths: those that may not be.
func notLengths() []int {
	return []int{-1, -2, -4096, -1 << 31, 3 - 1<<32, math.MinInt + 3, math.MinInt, 4097, 4098, 65536, 1 << 31, 1 << 32, 3 + 1<<32, math.MaxInt - 1, math.MaxInt}
}

// rows: rows of tokens that pack.Put takes.
func rows() [][]int {
	c := &chance{5}
	l := [][]int{nil, {}, {0}, {257}, {5, 3, 300}, {1048575}, {0, 1048575, 0}}
	for _, n := range []int{1, 2, 3, 127, 128, 4096, 4097, 65535, 65536} {
		l = append(l, c.tokens(n, 2), c.tokens(n, 4096), c.tokens(n, 1048576))
	}
	return l
}

// notRows: rows that pack.Put does not take.
func notRows() [][]int {
	return [][]int{{-1}, {1048576}, {5, -1, 3}, {5, 1048576}, {math.MinInt}, {math.MaxInt}, {1 << 32}, make([]int, 65537), append(make([]int, 65536), -1), append(make([]int, 65535), -1)}
}

// lists: each one of up to so many of these.
func lists[T any](kinds []T, most int) [][]T {
	all := [][]T{nil}
	for from := 0; most > 0; most-- {
		upTo := len(all)
		for _, list := range all[from:upTo] {
			for _, x := range kinds {
				all = append(all, append(slices.Clone(list), x))
			}
		}
		from = upTo
	}
	return all
}
