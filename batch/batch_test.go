package batch_test

import (
	"bytes"
	"slices"
	"strings"
	"sync"
	"testing"

	"stook/api"
	"stook/batch"
	"stook/bpe"
)

func TestP11_1Examples(t *testing.T) {
	v := example()
	rows, at, e := batch.Encode(v, [][]byte{[]byte("abc"), []byte("aab")}, 3)
	if !sameRows(rows, [][]int{{257}, {97, 256}}) || at != 0 || e != api.OK {
		t.Errorf("Encode(abc, aab) = %d, %d, %v", rows, at, e)
	}
	rows, at, e = batch.Encode(v, nil, 0)
	if len(rows) != 0 || at != 0 || e != api.OK {
		t.Errorf("Encode(none) = %d, %d, %v", rows, at, e)
	}
	docsRefused(t, "4097 bytes behind 1", v, [][]byte{{97}, make([]byte, 4097)}, 2, 1, api.ErrLimit)
	rowsRefused(t, "257 and 259", v, [][]int{{257}, {259}}, 1, 1, api.ErrArg)
	docs, at, e := batch.Decode(v, [][]int{{257, 256}, nil, {98, 99}}, 2)
	if !sameDocs(docs, [][]byte{[]byte("abcab"), nil, []byte("bc")}) || at != 0 || e != api.OK {
		t.Errorf("Decode = %q, %d, %v", docs, at, e)
	}
}

func TestP11_1EncodeOfEachInOrder(t *testing.T) {
	for name, v := range right() {
		docs := documents(20)
		for _, n := range workers() {
			encoded(t, name, v, docs, n)
		}
		for n := range 12 {
			encoded(t, name, v, docs[:n], 1+n*5%17)
		}
	}
}

func TestP11_1DecodeOfEachInOrder(t *testing.T) {
	for name, v := range right() {
		rows, _, e := saidEach(v, documents(20), bpe.Encode)
		if e != api.OK {
			t.Fatalf("%s: %v", name, e)
		}
		// Rows that no documents come to, too.
		rows = append(rows, []int{97, 98, 99}, []int{len(v.Pieces) - 1, 0, 255}, []int{98, 98, 97})
		for _, n := range workers() {
			decoded(t, name, v, rows, n)
		}
		for n := range 12 {
			decoded(t, name, v, rows[len(rows)-n:], 1+n*5%17)
		}
	}
}

func TestP11_1None(t *testing.T) {
	for name, v := range right() {
		for _, n := range workers() {
			encoded(t, name+", nil", v, nil, n)
			encoded(t, name+", no documents", v, [][]byte{}, n)
			encoded(t, name+", documents without bytes", v, [][]byte{nil, {}, nil}, n)
			decoded(t, name+", nil", v, nil, n)
			decoded(t, name+", no rows", v, [][]int{}, n)
			decoded(t, name+", rows without tokens", v, [][]int{{}, nil, {}}, n)
		}
	}
}

func TestP11_1HowMany(t *testing.T) {
	v := example()
	most := slices.Repeat([][]byte{[]byte("abc"), []byte("b"), nil, []byte("bcab")}, 256)
	rows := slices.Repeat([][]int{{257}, {98}, nil, {258, 256}}, 256)
	for _, n := range []int{1, 5, 16} {
		encoded(t, "as many as may be", v, most, n)
		decoded(t, "as many as may be", v, rows, n)
		for _, more := range []int{1, 2, 1024, 1 << 16} {
			docsRefused(t, "too many", v, append(slices.Clone(most), make([][]byte, more)...), n, 0, api.ErrLimit)
			rowsRefused(t, "too many", v, append(slices.Clone(rows), make([][]int, more)...), n, 0, api.ErrLimit)
		}
		// How many there are comes ahead of what they are.
		rowsRefused(t, "too many, the first of which is wrong", v, slices.Concat([][]int{{0}, {-1}}, rows), n, 0, api.ErrLimit)
		rowsRefused(t, "as many as may be, the last of which is wrong", v, append(slices.Clone(rows[1:]), []int{-1}), n, 1023, api.ErrArg)
		docsRefused(t, "as many as may be, the last of which is wrong", v, append(slices.Clone(most[1:]), make([]byte, 4097)), n, 1023, api.ErrLimit)
	}
}

// What the vocabulary is comes behind how many there are, and ahead of what they are: also where there are none.
func TestP11_1OfWhatMayNotBe(t *testing.T) {
	long := make([]byte, 4097)
	for name, v := range wrong() {
		for _, n := range workers() {
			for _, docs := range [][][]byte{nil, {}, {nil}, {[]byte("abc")}, {nil, long}, {long, long}, documents(20)} {
				docsRefused(t, name, v, docs, n, 0, api.ErrVocab)
			}
			for _, rows := range [][][]int{nil, {}, {nil}, {{97, 98}}, {nil, {-1}}, {make([]int, 4097), {-1}}, slices.Repeat([][]int{{5}}, 20)} {
				rowsRefused(t, name, v, rows, n, 0, api.ErrVocab)
			}
		}
		docsRefused(t, name, v, make([][]byte, 1024), 3, 0, api.ErrVocab)
		rowsRefused(t, name, v, make([][]int, 1024), 3, 0, api.ErrVocab)
		docsRefused(t, name+", too many", v, make([][]byte, 1025), 3, 0, api.ErrLimit)
		rowsRefused(t, name+", too many", v, make([][]int, 1025), 3, 0, api.ErrLimit)
	}
}

// Every list of up to four documents, some too long: the first one of these tells.
func TestP11_1FirstErrorOfDocuments(t *testing.T) {
	for _, docs := range lists([][]byte{[]byte("abc"), make([]byte, 4096), make([]byte, 4097)}, 4) {
		encoded(t, "some too long", example(), docs, 1+len(docs))
	}
	// The first one may well be done last.
	docs := slices.Repeat([][]byte{bytes.Repeat([]byte("a"), 4096), nil}, 4)
	docs[4], docs[5], docs[7] = make([]byte, 1<<22), make([]byte, 4097), make([]byte, 4097)
	for _, n := range workers() {
		docsRefused(t, "a very long one first", with(doubles(8)...), docs, n, 4, api.ErrLimit)
	}
}

// Every list of up to five rows, some of no tokens, some of too many: the first one of these tells, and by its own error.
func TestP11_1FirstErrorOfRows(t *testing.T) {
	v := with(doubles(8)...)
	tooMany := slices.Repeat([]int{263}, 17)
	for _, rows := range lists([][]int{{97, 256}, {97, 264}, tooMany}, 5) {
		decoded(t, "some wrong", v, rows, 1+len(rows))
	}
	late := make([]int, 1<<21)
	late[len(late)-1] = -1
	for _, n := range workers() {
		rowsRefused(t, "one wrong far behind", v, [][]int{{97}, late, tooMany, {-1}, {264}}, n, 1, api.ErrArg)
		rowsRefused(t, "one of too many", v, [][]int{{97}, {98}, make([]int, 1<<21), late, {-1}}, n, 2, api.ErrLimit)
	}
}

// lists: each one of up to so many of these.
func lists[T any](kinds []T, most int) [][]T {
	all := [][]T{nil}
	for from := 0; most > 0; most-- {
		upTo := len(all)
		for _, list := range all[from:upTo] {
			for _, x := range kinds {
				all = append(all, append(slices.Clone(list), x))
			}
		}
		from = upTo
	}
	return all
}

func TestP11_2Examples(t *testing.T) {
	counts, at, e := batch.Count(example(), [][]byte{[]byte("abc"), []byte("abc")}, 2)
	if len(counts) != 259 || counts[257] != 2 || counts[97] != 0 || at != 0 || e != api.OK {
		t.Errorf("Count(abc, abc) = %d, %d, %v", counts, at, e)
	}
}

// Each token has its count, that which stands nowhere as well.
func TestP11_2EachToken(t *testing.T) {
	for name, v := range right() {
		for _, docs := range [][][]byte{nil, {}, {nil, nil}, {[]byte("abcab"), nil, []byte("aaaa"), []byte("\xff")}} {
			for _, n := range workers() {
				counts, at, e := batch.Count(v, docs, n)
				if len(counts) != len(v.Pieces) || at != 0 || e != api.OK {
					t.Errorf("%s: Count of %d documents = %d counts, %d, %v", name, len(docs), len(counts), at, e)
				}
				encoded(t, name, v, docs, n)
			}
		}
	}
	var all []byte
	for c := range 256 {
		all = append(all, byte(c))
	}
	counts, at, e := batch.Count(with(), slices.Repeat([][]byte{all}, 7), 4)
	if !slices.Equal(counts, slices.Repeat([]int{7}, 256)) || at != 0 || e != api.OK {
		t.Errorf("Count of each byte, 7 times, = %d, %d, %v", counts, at, e)
	}
	counts, at, e = batch.Count(with(), slices.Repeat([][]byte{make([]byte, 4096)}, 1024), 16)
	if counts[0] != 1<<22 || !slices.Equal(counts[1:], make([]int, 255)) || at != 0 || e != api.OK {
		t.Errorf("Count of as many as may be = %d, %d, %v", counts, at, e)
	}
}

// The same thing many times over: how the workers run doesn't show.
func TestP11_3AnyNumberOfWorkers(t *testing.T) {
	for name, v := range right() {
		docs := documents(18)
		want, _, _ := batch.Encode(v, docs, 1)
		wantCounts, _, _ := batch.Count(v, docs, 1)
		for range 2 {
			for _, n := range workers() {
				rows, at, e := batch.Encode(v, docs, n)
				if !sameRows(rows, want) || at != 0 || e != api.OK {
					t.Fatalf("%s, by %d: Encode is another one, %d, %v", name, n, at, e)
				}
				counts, at, e := batch.Count(v, docs, n)
				if !slices.Equal(counts, wantCounts) || at != 0 || e != api.OK {
					t.Fatalf("%s, by %d: Count is another one, %d, %v", name, n, at, e)
				}
				back, at, e := batch.Decode(v, rows, n)
				if !sameDocs(back, docs) || at != 0 || e != api.OK {
					t.Fatalf("%s, by %d: Decode of Encode is another one, %d, %v", name, n, at, e)
				}
			}
		}
	}
}

func TestP11_3PartsOfTheList(t *testing.T) {
	for name, v := range right() {
		docs := documents(12)
		rows, _, _ := batch.Encode(v, docs, 3)
		whole, _, _ := batch.Count(v, docs, 3)
		for upTo := range len(docs) + 1 {
			for from := range upTo + 1 {
				part, at, e := batch.Encode(v, docs[from:upTo], 1+from)
				if !sameRows(part, rows[from:upTo]) || at != 0 || e != api.OK {
					t.Errorf("%s: Encode of %d to %d is no part, %d, %v", name, from, upTo, at, e)
				}
				back, at, e := batch.Decode(v, rows[from:upTo], 1+from)
				if !sameDocs(back, docs[from:upTo]) || at != 0 || e != api.OK {
					t.Errorf("%s: Decode of %d to %d is no part, %d, %v", name, from, upTo, at, e)
				}
			}
			ahead, _, _ := batch.Count(v, docs[:upTo], 2)
			behind, _, _ := batch.Count(v, docs[upTo:], 2)
			for token, n := range whole {
				if ahead[token]+behind[token] != n {
					t.Errorf("%s: Count of the parts at %d: %d and %d of %d, not %d", name, upTo, ahead[token], behind[token], token, n)
				}
			}
		}
	}
}

func TestP11_3DecodeOfEncode(t *testing.T) {
	docs := append(documents(1000), []byte(strings.Repeat("abcd", 1024)), []byte("the cab had a bad dad"), nil)
	for name, v := range right() {
		rows, at, e := batch.Encode(v, docs, 16)
		if len(rows) != len(docs) || at != 0 || e != api.OK {
			t.Fatalf("%s: Encode = %d rows, %d, %v", name, len(rows), at, e)
		}
		back, at, e := batch.Decode(v, rows, 7)
		if !sameDocs(back, docs) || at != 0 || e != api.OK {
			t.Errorf("%s: Decode of Encode is another one, %d, %v", name, at, e)
		}
	}
}

// Calls that run at once have nothing in common but what they are handed.
func TestP11_3CallsAtOnce(t *testing.T) {
	var calls sync.WaitGroup
	docs := documents(20)
	for i := range 8 {
		calls.Go(func() {
			for name, v := range right() {
				encoded(t, name, v, docs, i)
				rows, _, _ := batch.Encode(v, docs, i)
				decoded(t, name, v, rows, i)
			}
		})
	}
	calls.Wait()
}

// spoil: all of the list's elements, and what stands in the room behind its end, become x.
func spoil[T any](list []T, x T) {
	list = list[:cap(list)]
	for i := range list {
		list[i] = x
	}
}

// One row may well stand in the list twice: what is answered of it is two lists.
func TestP11_1And2MemoryOfAnswersIsNew(t *testing.T) {
	v := example()
	doc := []byte("abcab|bcab")
	row := []int{257, 256, 124, 258, 256}
	docs := [][]byte{doc, doc, doc, doc}
	for i := range docs {
		rows, _, _ := batch.Encode(v, docs, 2)
		again, _, _ := batch.Encode(v, docs, 2)
		back, _, _ := batch.Decode(v, rows, 2)
		counts, _, _ := batch.Count(v, docs, 2)
		other, _, _ := batch.Count(v, docs, 2)
		spoil(rows[i], -9)
		spoil(back[i], 9)
		spoil(counts, -9)
		for k := range docs {
			if k != i && (!slices.Equal(rows[k], row) || !bytes.Equal(back[k], doc)) {
				t.Fatalf("lists of one answer share memory: %d, %q", rows[k], back[k])
			}
		}
		spoil(rows, nil)
		spoil(back, nil)
		if !sameRows(again, slices.Repeat([][]int{row}, 4)) || !slices.Equal(other, saidCount(v, again)) {
			t.Fatalf("answers share memory: %d, %d", again, other)
		}
	}
	if string(doc) != "abcab|bcab" || !sameDocs(docs, slices.Repeat([][]byte{doc}, 4)) || !slices.Equal(v.Pieces, example().Pieces) {
		t.Errorf("answers share memory with what was handed in: %q", docs)
	}
}

func TestP11_1And2LeaveWhatTheyAreHanded(t *testing.T) {
	tail := []api.Piece{join(-7, -7, 7), {Byte: 7, Rank: 7}}
	for name, v := range map[string]api.Vocab{"right": example(), "wrong": with(join(97, 98, 5), join(1, 2, 5))} {
		pieces := append(slices.Clone(v.Pieces), tail...)
		was := slices.Clone(pieces)
		v.Pieces = pieces[:len(v.Pieces)]
		letters, tokens := []byte("abcabcabc"), []int{97, 98, 99, 97, 98, -1, 97}
		docs, rows := [][]byte{letters[:3], letters[:0], letters[:5], letters}, [][]int{tokens[:3], tokens[:0], tokens[:4], tokens}
		for n := range len(docs) + 1 {
			batch.Encode(v, docs[:n], 2)
			batch.Count(v, docs[:n], 2)
			batch.Decode(v, rows[:n], 2)
		}
		if string(letters) != "abcabcabc" || !slices.Equal(tokens, []int{97, 98, 99, 97, 98, -1, 97}) || !slices.Equal(pieces, was) {
			t.Errorf("%s: what was handed in is another one now: %q, %d", name, letters, tokens)
		}
		if !sameDocs(docs, [][]byte{letters[:3], nil, letters[:5], letters}) || !sameRows(rows, [][]int{tokens[:3], nil, tokens[:4], tokens}) {
			t.Errorf("%s: the lists that were handed in are others now: %q, %d", name, docs, rows)
		}
	}
}
