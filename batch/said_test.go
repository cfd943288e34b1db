package batch_test

import (
	"bytes"
	"math"
	"slices"
	"testing"

	"stook/api"
	"stook/batch"
	"stook/bpe"
	"stook/draw"
	"stook/vocab"
)

// What the chapter's words say, one document behind the other, and vocabularies and documents to hold it against.

func join(left, right int, rank uint32) api.Piece {
	return api.Piece{Join: true, Left: left, Right: right, Rank: rank}
}

// with: the bytes, rising, and these pieces behind them.
func with(l ...api.Piece) api.Vocab {
	return api.Vocab{Pieces: append(vocab.Plain().Pieces, l...)}
}

// example: the V of the chapter's examples.
func example() api.Vocab { return with(join(97, 98, 5), join(256, 99, 2), join(98, 99, 9)) }

// doubles: n joins, each of the one ahead of it with itself: of 2 bytes a, 4, and so on; up to 256 with 8 of them.
func doubles(n int) []api.Piece {
	l := []api.Piece{join(97, 97, 0)}
	for i := 1; i < n; i++ {
		l = append(l, join(255+i, 255+i, uint32(i)))
	}
	return l
}

// pairs: n joins of two bytes each.
func pairs(n int) []api.Piece {
	var l []api.Piece
	for i := range n {
		l = append(l, join(97+i/256, i%256, uint32(n-i)))
	}
	return l
}

// turned: the example with its bytes falling and a join between them, so that a token is not the number of its byte.
func turned() api.Vocab {
	l := vocab.Plain().Pieces
	slices.Reverse(l)
	return api.Vocab{Pieces: slices.Insert(l, 200, join(158, 157, 7))}
}

// right: vocabularies that may be.
func right() map[string]api.Vocab {
	return map[string]api.Vocab{
		"plain":   with(),
		"example": example(),
		"doubles": with(doubles(8)...),
		"turned":  turned(),
		"full":    with(pairs(3840)...),
	}
}

// wrong: vocabularies that may not be.
func wrong() map[string]api.Vocab {
	return map[string]api.Vocab{
		"none":              {},
		"a byte is missing": {Pieces: with().Pieces[1:]},
		"a byte twice":      with(api.Piece{Byte: 5}),
		"too many":          with(pairs(3841)...),
		"too long":          with(doubles(9)...),
		"a rank twice":      with(join(97, 98, 5), join(256, 99, 5)),
		"of itself":         with(join(97, 256, 5)),
	}
}

// workers: how many there may be, and numbers below and above.
func workers() []int {
	return []int{math.MinInt, -1 << 32, -5, -1, 0, 1, 2, 3, 4, 7, 8, 15, 16, 17, 99, 1<<32 + 1, math.MaxInt}
}

// letters: n of these, by a seed.
func letters(seed uint64, of string, n int) []byte {
	var b []byte
	for range n {
		var i uint64
		i, seed, _ = draw.Below(seed, uint64(len(of)))
		b = append(b, of[i])
	}
	return b
}

// documents: n of them, of unlike sizes: there are long ones ahead of short ones, so that what is begun first isn't done
// first.
func documents(n int) [][]byte {
	kinds := []string{"ab", "abc", "aaaab", "abcd\x00\xff"}
	var docs [][]byte
	for i := range n {
		size := i * i % 97
		if i%9 == 0 {
			size = 4096 - i
		}
		docs = append(docs, letters(uint64(i), kinds[i%len(kinds)], size))
	}
	return docs
}

// saidEach: what turn answers of each one, in order; else the first error, and where.
func saidEach[In, Out any](v api.Vocab, list [][]In, turn func(api.Vocab, []In) ([]Out, api.Errno)) (outs [][]Out, at int, e api.Errno) {
	for place, one := range list {
		out, e := turn(v, one)
		if e != api.OK {
			return nil, place, e
		}
		outs = append(outs, out)
	}
	return outs, 0, api.OK
}

// saidCount: how often each token stands in the rows.
func saidCount(v api.Vocab, rows [][]int) []int {
	all := slices.Concat(rows...)
	slices.Sort(all)
	var counts []int
	for token := range v.Pieces {
		from, _ := slices.BinarySearch(all, token)
		upTo, _ := slices.BinarySearch(all, token+1)
		counts = append(counts, upTo-from)
	}
	return counts
}

func sameRows(a, b [][]int) bool  { return slices.EqualFunc(a, b, slices.Equal) }
func sameDocs(a, b [][]byte) bool { return slices.EqualFunc(a, b, bytes.Equal) }

// encoded: that the rows of the documents are those of each one by itself, or the error is; and that Count says so, too.
func encoded(t *testing.T, what string, v api.Vocab, docs [][]byte, workers int) {
	t.Helper()
	want, wantAt, wantE := saidEach(v, docs, bpe.Encode)
	if rows, at, e := batch.Encode(v, docs, workers); !sameRows(rows, want) || at != wantAt || e != wantE {
		t.Errorf("%s, by %d: Encode of %d documents = %d rows, %d, %v, not %d rows, %d, %v", what, workers, len(docs), len(rows), at, e, len(want), wantAt, wantE)
	}
	var wantCounts []int
	if wantE == api.OK {
		wantCounts = saidCount(v, want)
	}
	if counts, at, e := batch.Count(v, docs, workers); !slices.Equal(counts, wantCounts) || at != wantAt || e != wantE {
		t.Errorf("%s, by %d: Count of %d documents = %d, %d, %v, not %d, %d, %v", what, workers, len(docs), counts, at, e, wantCounts, wantAt, wantE)
	}
}

// decoded: that the documents of the rows are those of each one by itself, or the error is.
func decoded(t *testing.T, what string, v api.Vocab, rows [][]int, workers int) {
	t.Helper()
	want, wantAt, wantE := saidEach(v, rows, bpe.Decode)
	if docs, at, e := batch.Decode(v, rows, workers); !sameDocs(docs, want) || at != wantAt || e != wantE {
		t.Errorf("%s, by %d: Decode of %d rows = %d documents, %d, %v, not %d documents, %d, %v", what, workers, len(rows), len(docs), at, e, len(want), wantAt, wantE)
	}
}

// Refusals: that there is this error at this place, and nothing beside.

func docsRefused(t *testing.T, what string, v api.Vocab, docs [][]byte, workers, at int, e api.Errno) {
	t.Helper()
	if rows, place, got := batch.Encode(v, docs, workers); len(rows) != 0 || place != at || got != e {
		t.Errorf("%s, by %d: Encode of %d documents = %d rows, %d, %v, not %d, %v", what, workers, len(docs), len(rows), place, got, at, e)
	}
	if counts, place, got := batch.Count(v, docs, workers); len(counts) != 0 || place != at || got != e {
		t.Errorf("%s, by %d: Count of %d documents = %d, %d, %v, not %d, %v", what, workers, len(docs), counts, place, got, at, e)
	}
}

func rowsRefused(t *testing.T, what string, v api.Vocab, rows [][]int, workers, at int, e api.Errno) {
	t.Helper()
	if docs, place, got := batch.Decode(v, rows, workers); len(docs) != 0 || place != at || got != e {
		t.Errorf("%s, by %d: Decode of %d rows = %d documents, %d, %v, not %d, %v", what, workers, len(rows), len(docs), place, got, at, e)
	}
}
