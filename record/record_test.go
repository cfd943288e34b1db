package record_test

import (
	"bytes"
	"crypto/sha256"
	"encoding/binary"
	"math"
	"slices"
	"testing"

	"stook/api"
	"stook/record"
	"stook/vocab"
)

// short: the record with no more of its tokens than one likes to read.
func short(r api.Record) api.Record {
	r.Tokens = r.Tokens[:min(9, len(r.Tokens))]
	return r
}

// putAs: Put says of the record what the words say.
func putAs(t *testing.T, r api.Record) {
	t.Helper()
	want, why := saidPut(r)
	if b, e := record.Put(r); !bytes.Equal(b, want) || e != why {
		t.Errorf("Put(%v ..) of %d tokens = %d bytes, %v, not %d bytes, %v", short(r), len(r.Tokens), len(b), e, len(want), why)
	}
}

// getAs: Get says of the bytes what the words say.
func getAs(t *testing.T, b []byte) {
	t.Helper()
	want, why := saidGet(b)
	if r, e := record.Get(b); !same(r, want) || e != why {
		t.Errorf("Get of %d bytes, %x.. behind the 40th = %v, %v, not %v, %v", len(b), b[min(40, len(b)):min(60, len(b))], short(r), e, short(want), why)
	}
}

// getRefused: Get tells this error of the bytes, and nothing beside.
func getRefused(t *testing.T, b []byte, why api.Errno) {
	t.Helper()
	if r, e := record.Get(b); !zero(r) || e != why {
		t.Errorf("Get of %d bytes, %x.. behind the 40th = %v, %v, not %v", len(b), b[min(40, len(b)):min(60, len(b))], short(r), e, why)
	}
}

// made: the document's record, which must be there.
func made(t *testing.T, v api.Vocab, id uint64, doc []byte) api.Record {
	t.Helper()
	r, e := record.Of(v, id, doc)
	if e != api.OK {
		t.Fatalf("Of of %d bytes: %v", len(doc), e)
	}
	return r
}

// docAs: Doc and Right say of the record what the words say.
func docAs(t *testing.T, what string, v api.Vocab, r api.Record) {
	t.Helper()
	want, why := saidDoc(v, r)
	if b, e := record.Doc(v, r); !bytes.Equal(b, want) || e != why {
		t.Errorf("%s: Doc(%v ..) = %d bytes, %v, not %d bytes, %v", what, short(r), len(b), e, len(want), why)
	}
	if is := saidRight(v, r); record.Right(v, r) != is {
		t.Errorf("%s: Right(%v ..) is not %t", what, short(r), is)
	}
}

// docRefused: Doc tells this error of the record, and nothing beside; and it is not right.
func docRefused(t *testing.T, what string, v api.Vocab, r api.Record, why api.Errno) {
	t.Helper()
	if b, e := record.Doc(v, r); len(b) != 0 || e != why {
		t.Errorf("%s: Doc(%v ..) = %d bytes, %v, not %v", what, short(r), len(b), e, why)
	}
	if record.Right(v, r) {
		t.Errorf("%s: %v .. is right", what, short(r))
	}
}

// behind: the forty bytes with which a record begins, and these behind them.
func behind(rows ...[]byte) []byte {
	head := make([]byte, 40)
	for i := range head {
		head[i] = byte(7*i + 1)
	}
	return append(head, slices.Concat(rows...)...)
}

// number: the bytes of a number (leb).
func number(n uint64) []byte { return binary.AppendUvarint(nil, n) }

func TestP13_1Examples(t *testing.T) {
	b, e := record.Put(made(t, example(), 7, []byte("abc")))
	want := append([]byte{
		0xba, 0x78, 0x16, 0xbf, 0x8f, 0x01, 0xcf, 0xea, 0x41, 0x41, 0x40, 0xde, 0x5d, 0xae, 0x22, 0x23,
		0xb0, 0x03, 0x61, 0xa3, 0x96, 0x17, 0x7a, 0x9c, 0xb4, 0x10, 0xff, 0x61, 0xf2, 0x00, 0x15, 0xad,
	}, 7, 0, 0, 0, 0, 0, 0, 0, 3, 1, 0x82, 4)
	if !bytes.Equal(b, want) || len(b) != 44 || e != api.OK {
		t.Errorf("Put of abc's = %x, %v", b, e)
	}
	getRefused(t, make([]byte, 39), api.ErrShort)
	if r, e := record.Get(make([]byte, 42)); !zero(r) || e != api.OK {
		t.Errorf("Get of forty-two bytes 0 = %v, %v", r, e)
	}
	getRefused(t, make([]byte, 43), api.ErrForm)
	if b, e := record.Put(api.Record{}); !bytes.Equal(b, make([]byte, 42)) || e != api.OK {
		t.Errorf("Put of the zero record = %x, %v", b, e)
	}
}

// The number is laid the lowest byte first, behind the digest.
func TestP13_1WhereThingsStand(t *testing.T) {
	r := api.Record{Vocab: 0x0102030405060708, Length: 300, Tokens: []int{5, 3, 300}}
	for i := range r.Digest {
		r.Digest[i] = byte(100 + i)
	}
	var want []byte
	for i := range 32 {
		want = append(want, byte(100+i))
	}
	want = append(want, 8, 7, 6, 5, 4, 3, 2, 1, 0xac, 2, 3, 0x0a, 3, 0xd2, 4)
	if b, e := record.Put(r); !bytes.Equal(b, want) || e != api.OK {
		t.Errorf("Put(%v) = %x, %v, not %x", r, b, e, want)
	}
	if got, e := record.Get(want); !same(got, r) || e != api.OK {
		t.Errorf("Get(%x) = %v, %v, not %v", want, got, e, r)
	}
	// Each bit of the forty bytes is one of the digest's or of the number's.
	for bit := range 320 {
		changed := bytes.Clone(want)
		changed[bit/8] ^= 1 << (bit % 8)
		other := r
		if bit < 256 {
			other.Digest[bit/8] ^= 1 << (bit % 8)
		} else {
			other.Vocab ^= 1 << (bit - 256)
		}
		if got, e := record.Get(changed); !same(got, other) || e != api.OK {
			t.Errorf("bit %d: Get = %v, %v, not %v", bit, got, e, other)
		}
		if b, e := record.Put(other); !bytes.Equal(b, changed) || e != api.OK {
			t.Errorf("bit %d: Put = %x, %v, not %x", bit, b, e, changed)
		}
	}
}

// Whatever the tokens are: Put does not ask whether they are as many bytes as Length says, nor whose they are.
func TestP13_1PutAsTheWordsSay(t *testing.T) {
	c := &chance{1}
	for _, l := range rows() {
		for _, length := range lengths() {
			r := api.Record{Digest: c.digest(), Vocab: c.word(), Length: length, Tokens: l}
			if _, e := record.Put(r); e != api.OK {
				t.Errorf("Put of the length %d and %d tokens: %v", length, len(l), e)
			}
			putAs(t, r)
		}
	}
	for length := range 4097 {
		putAs(t, api.Record{Digest: c.digest(), Vocab: c.word(), Length: length, Tokens: c.tokens(3, 300)})
	}
	for _, id := range numbers() {
		putAs(t, api.Record{Vocab: id})
		putAs(t, api.Record{Digest: c.digest(), Vocab: id, Length: 4096, Tokens: c.tokens(9, 1048576)})
	}
}

// Length comes ahead of the tokens.
func TestP13_1PutOfWhatMayNotBe(t *testing.T) {
	for _, length := range notLengths() {
		for _, l := range slices.Concat(rows(), notRows()) {
			if b, e := record.Put(api.Record{Length: length, Tokens: l}); b != nil || e != api.ErrArg {
				t.Errorf("Put of the length %d and %d tokens = %d bytes, %v", length, len(l), len(b), e)
			}
		}
	}
	for _, l := range notRows() {
		for _, length := range lengths() {
			putAs(t, api.Record{Vocab: 7, Length: length, Tokens: l})
			want := api.ErrArg
			if len(l) > 65536 {
				want = api.ErrLimit
			}
			if b, e := record.Put(api.Record{Length: length, Tokens: l}); b != nil || e != want {
				t.Errorf("Put of the length %d and %d tokens that may not be = %d bytes, %v", length, len(l), len(b), e)
			}
		}
	}
}

func TestP13_1GetOfFewBytes(t *testing.T) {
	getRefused(t, nil, api.ErrShort)
	for _, fill := range []byte{0, 1, 0x7f, 0x80, 0xff} {
		for n := range 41 {
			getRefused(t, bytes.Repeat([]byte{fill}, n), api.ErrShort)
			// What stands in the room behind the end is not read.
			getRefused(t, bytes.Repeat([]byte{fill}, 60)[:n], api.ErrShort)
		}
	}
	getRefused(t, behind([]byte{3, 1, 0x82, 4})[:40], api.ErrShort)
	getRefused(t, behind([]byte{3, 1, 0x82, 4})[:43], api.ErrShort)
}

func TestP13_1GetsLength(t *testing.T) {
	for _, length := range lengths() {
		r, e := record.Get(behind(number(uint64(length)), []byte{1, 10}))
		if r.Length != length || !slices.Equal(r.Tokens, []int{5}) || e != api.OK {
			t.Errorf("Get of the length %d = %v, %v", length, r, e)
		}
	}
	// Ahead of what is wrong behind it.
	ends := [][]byte{nil, {0}, {0, 0}, {1}, {1, 1}, {0x80}, {0x80, 0}, {0x81, 0x80, 4}, make([]byte, 70)}
	for _, end := range ends {
		for _, length := range []uint64{4097, 4098, 8192, 16384, 65536, 1 << 31, 1 << 32, 1<<32 + 3, 1<<63 - 1, 1 << 63, 1<<63 + 3, math.MaxUint64 - 1, math.MaxUint64} {
			getRefused(t, behind(number(length), end), api.ErrLimit)
		}
		getRefused(t, behind([]byte{0x80, 0}, end), api.ErrForm)
		getRefused(t, behind([]byte{0x83, 0}, end), api.ErrForm)
		getRefused(t, behind([]byte{0x83, 0x80, 0}, end), api.ErrForm)
		getRefused(t, behind(bytes.Repeat([]byte{0x80}, 10), end), api.ErrForm)
		getRefused(t, behind(bytes.Repeat([]byte{0xff}, 9), []byte{2}, end), api.ErrForm)
	}
	for n := range 10 {
		getRefused(t, behind(bytes.Repeat([]byte{0x80}, n)), api.ErrShort)
		getRefused(t, behind(bytes.Repeat([]byte{0xff}, n)), api.ErrShort)
	}
}

func TestP13_1GetsTokens(t *testing.T) {
	for _, c := range []struct {
		tokens []byte
		e      api.Errno
	}{
		{nil, api.ErrShort},
		{[]byte{0x80}, api.ErrShort},
		{[]byte{0x80, 0}, api.ErrForm},
		{[]byte{1}, api.ErrShort},
		{[]byte{1, 1}, api.ErrForm},
		{[]byte{1, 1, 9}, api.ErrForm},
		{[]byte{2, 10}, api.ErrShort},
		{[]byte{2, 10, 13}, api.ErrForm},
		{[]byte{1, 0x80, 0x80, 0x80, 1}, api.ErrForm},
		{[]byte{0x81, 0x80, 4}, api.ErrLimit},
		{slices.Concat([]byte{0x81, 0x80, 4}, make([]byte, 65537)), api.ErrLimit},
		{slices.Concat([]byte{0x80, 0x80, 4}, make([]byte, 65535)), api.ErrShort},
		{slices.Concat([]byte{0x80, 0x80, 4}, make([]byte, 65537)), api.ErrForm},
		// Behind the tokens nothing may stand.
		{[]byte{0, 0}, api.ErrForm},
		{[]byte{0, 0xff}, api.ErrForm},
		{[]byte{1, 10, 0}, api.ErrForm},
		{append([]byte{1, 10}, make([]byte, 1000)...), api.ErrForm},
	} {
		for _, length := range lengths() {
			getRefused(t, behind(number(uint64(length)), c.tokens), c.e)
		}
	}
	most := behind([]byte{0}, []byte{0x80, 0x80, 4}, make([]byte, 65536))
	if r, e := record.Get(most); len(r.Tokens) != 65536 || e != api.OK {
		t.Errorf("Get of as many tokens as may be = %d tokens, %v", len(r.Tokens), e)
	}
	for _, l := range rows() {
		b, _ := saidPut(api.Record{Vocab: 7, Length: 9, Tokens: l})
		if r, e := record.Get(b); !slices.Equal(r.Tokens, l) || r.Length != 9 || r.Vocab != 7 || e != api.OK {
			t.Errorf("Get of %d tokens = %v, %v", len(l), short(r), e)
		}
	}
}

// All short rows of bytes that matter behind the forty; and all bytes in the first three places there.
func TestP13_1GetOfHostileBytes(t *testing.T) {
	for _, b := range lists([]byte{0, 1, 2, 3, 0x20, 0x7f, 0x80, 0x81, 0xff}, 5) {
		getAs(t, behind(b))
	}
	for i := range 256 {
		for j := range 256 {
			getAs(t, behind([]byte{byte(i), byte(j)}))
			getAs(t, behind([]byte{byte(i), byte(j), 0}))
			getAs(t, behind([]byte{byte(i), byte(j), 1, 10}))
			getAs(t, behind([]byte{9, byte(i), byte(j)}))
			getAs(t, behind([]byte{9, 1, byte(i), byte(j)}))
		}
	}
}

// Records as they are put, each with one byte changed, left out, put in or cut off.
func TestP13_1GetOfChangedBytes(t *testing.T) {
	c := &chance{3}
	for _, doc := range [][]byte{nil, []byte("abc"), c.text("abc", 200), c.text("abcd", 4096)} {
		b, _ := saidPut(made(t, among(2, 500), c.word(), doc))
		for at := range b[:min(len(b), 300)] {
			getAs(t, b[:at])
			getAs(t, slices.Delete(bytes.Clone(b), at, at+1))
			getAs(t, slices.Insert(bytes.Clone(b), at, 1))
			for bit := range 8 {
				for _, mask := range []byte{1 << bit, 0xff << bit, 0xff >> bit} {
					changed := bytes.Clone(b)
					changed[at] ^= mask
					getAs(t, changed)
				}
			}
		}
	}
}

func TestP13_2Examples(t *testing.T) {
	r, e := record.Of(example(), 7, []byte("abc"))
	if r.Vocab != 7 || r.Length != 3 || !slices.Equal(r.Tokens, []int{257}) || e != api.OK {
		t.Errorf("Of = %v, %v", r, e)
	}
	if r.Digest != sha256.Sum256([]byte("abc")) {
		t.Errorf("Of's digest = %x", r.Digest)
	}
	if b, e := record.Doc(example(), r); string(b) != "abc" || e != api.OK {
		t.Errorf("Doc = %q, %v", b, e)
	}
	if !record.Right(example(), r) {
		t.Errorf("what Of answers is not right")
	}
	docRefused(t, "plain", vocab.Plain(), r, api.ErrArg)
	r.Length = 4
	docRefused(t, "another length", example(), r, api.ErrSum)
}

func TestP13_2OfAsTheWordsSay(t *testing.T) {
	for name, v := range right() {
		for i, doc := range docs() {
			id := numbers()[i]
			want, why := saidOf(v, id, doc)
			if r, e := record.Of(v, id, doc); !same(r, want) || e != why || e != api.OK {
				t.Errorf("%s: Of of %d bytes = %v, %v, not %v", name, len(doc), short(r), e, short(want))
			}
		}
	}
	for _, id := range numbers() {
		if r, e := record.Of(example(), id, []byte("abcab")); r.Vocab != id || r.Length != 5 || !slices.Equal(r.Tokens, []int{257, 256}) || e != api.OK {
			t.Errorf("Of with the number %d = %v, %v", id, r, e)
		}
	}
}

// What the vocabulary is comes ahead of how many bytes there are.
func TestP13_2OfOfWhatMayNotBe(t *testing.T) {
	sizes := []int{4097, 4098, 65536, 65537, 1 << 20}
	for name, v := range right() {
		for _, n := range sizes {
			for _, doc := range [][]byte{make([]byte, n), bytes.Repeat([]byte("a"), n)} {
				if r, e := record.Of(v, 7, doc); !zero(r) || e != api.ErrTooLarge {
					t.Errorf("%s: Of of %d bytes = %v, %v", name, n, short(r), e)
				}
			}
		}
		if r, e := record.Of(v, 7, make([]byte, 4096)); r.Length != 4096 || e != api.OK {
			t.Errorf("%s: Of of as many bytes as may be = %v, %v", name, short(r), e)
		}
	}
	for name, v := range wrong() {
		for _, n := range append(sizes, 0, 1, 3, 4096) {
			if r, e := record.Of(v, 7, bytes.Repeat([]byte("a"), n)); !zero(r) || e != api.ErrVocab {
				t.Errorf("%s: Of of %d bytes = %v, %v", name, n, short(r), e)
			}
		}
	}
}

// What is wrong with the vocabulary, with the tokens, or with how many bytes they have, comes ahead of lengths and sums.
func TestP13_2DocsErrorsOfTheTokens(t *testing.T) {
	abc := made(t, example(), 7, []byte("abc"))
	for name, v := range wrong() {
		for _, l := range [][]int{nil, {257}, {97, 98, 99}, {-1}, {1 << 40}, make([]int, 5000)} {
			r := abc
			r.Tokens = l
			docRefused(t, name, v, r, api.ErrVocab)
			docRefused(t, name, v, api.Record{Tokens: l}, api.ErrVocab)
		}
		docRefused(t, name, v, made(t, example(), 7, nil), api.ErrVocab)
	}
	for name, v := range right() {
		n := len(v.Pieces)
		for _, wrong := range []int{-1, n, n + 1, 4096, 1048575, math.MinInt, math.MaxInt, 97 + 1<<32, 97 - 1<<32} {
			for _, l := range [][]int{{wrong}, {wrong, 97}, {97, 98, wrong}, append(make([]int, 4097), wrong), append(make([]int, 65537), wrong)} {
				r := abc
				r.Tokens = l
				docRefused(t, name, v, r, api.ErrArg)
			}
		}
		for _, many := range []int{4097, 5000, 65536, 65537} {
			for _, length := range []int{0, 4096, many, -1} {
				docRefused(t, name, v, api.Record{Digest: sha256.Sum256(make([]byte, many)), Length: length, Tokens: slices.Repeat([]int{0}, many)}, api.ErrLimit)
			}
		}
	}
	// Seventeen tokens of 256 bytes are as many as sixteen and one more.
	v := with(doubles(8)...)
	a := bytes.Repeat([]byte("a"), 4096)
	most := api.Record{Digest: sha256.Sum256(a), Length: 4096, Tokens: slices.Repeat([]int{263}, 16)}
	if b, e := record.Doc(v, most); !bytes.Equal(b, a) || e != api.OK || !record.Right(v, most) {
		t.Errorf("Doc of as many bytes as may be = %d bytes, %v", len(b), e)
	}
	most.Tokens = append(most.Tokens, 97)
	docRefused(t, "one more", v, most, api.ErrLimit)
	most.Length = 4097
	docRefused(t, "one more, and Length says so", v, most, api.ErrLimit)
}

func TestP13_2DocHoldsLengthAndSum(t *testing.T) {
	c := &chance{9}
	for name, v := range right() {
		for _, doc := range [][]byte{nil, []byte("abc"), c.text("abc", 300), c.text("abc", 4096)} {
			r := made(t, v, 7, doc)
			for _, length := range slices.Concat(lengths(), notLengths(), []int{r.Length - 1, r.Length + 1, r.Length + 1<<32, -r.Length, len(r.Tokens)}) {
				other := r
				other.Length = length
				docAs(t, name, v, other)
				if length != len(doc) {
					docRefused(t, name, v, other, api.ErrSum)
				}
			}
			for bit := 0; bit < 256; bit += 1 + len(doc)/100 {
				other := r
				other.Digest[bit/8] ^= 1 << (bit % 8)
				docRefused(t, name, v, other, api.ErrSum)
				other.Length++
				docRefused(t, name, v, other, api.ErrSum)
			}
		}
	}
	docRefused(t, "the zero record", example(), api.Record{}, api.ErrSum)
}

// The number is another's to hold against a vocabulary: neither Doc nor Right asks what it is.
func TestP13_2AnyNumber(t *testing.T) {
	r := made(t, example(), 7, []byte("abcab"))
	for _, id := range numbers() {
		r.Vocab = id
		if b, e := record.Doc(example(), r); string(b) != "abcab" || e != api.OK || !record.Right(example(), r) {
			t.Errorf("Doc with the number %d = %q, %v, and right is %t", id, b, e, record.Right(example(), r))
		}
	}
}

// Of all rows of tokens that have the document's bytes, one alone is right.
func TestP13_2RightOfOtherTokens(t *testing.T) {
	v := example()
	for _, doc := range []string{"", "a", "ab", "abc", "bc", "abcab", "aabbcc", "abcbca", "abcabcabc"} {
		own := made(t, v, 7, []byte(doc))
		rights := 0
		for _, l := range splits(doc, []int{97, 98, 99, 256, 257, 258}, []string{"a", "b", "c", "ab", "abc", "bc"}) {
			r := own
			r.Tokens = l
			if b, e := record.Doc(v, r); string(b) != doc || e != api.OK {
				t.Errorf("Doc(%v) = %q, %v, not %q", r, b, e, doc)
			}
			if record.Right(v, r) {
				rights++
				if !slices.Equal(l, own.Tokens) {
					t.Errorf("%v is right, and %v too", r, own)
				}
			}
		}
		if rights != 1 {
			t.Errorf("of the rows of tokens that %q has %d are right", doc, rights)
		}
	}
	for _, doc := range []string{"", "ab", "abc"} {
		r := made(t, v, 7, []byte(doc))
		for _, r.Tokens = range lists([]int{97, 98, 99, 256, 257, 258, 259, -1}, 3) {
			docAs(t, doc, v, r)
		}
	}
}

// Right by one vocabulary, and by another one only if that has the same tokens for the document.
func TestP13_2RightByOtherVocabularies(t *testing.T) {
	vocabs := right()
	for name, v := range vocabs {
		for _, doc := range docs() {
			r := made(t, v, 7, doc)
			for other, w := range vocabs {
				docAs(t, name+" by "+other, w, r)
			}
		}
	}
	r := made(t, vocab.Plain(), 7, []byte("abc"))
	if b, e := record.Doc(example(), r); string(b) != "abc" || e != api.OK || record.Right(example(), r) {
		t.Errorf("a plain record by the example = %q, %v, and right is %t", b, e, record.Right(example(), r))
	}
}

func TestP13_3WhatIsPutIsGot(t *testing.T) {
	c := &chance{4}
	for _, l := range rows() {
		for _, length := range lengths() {
			r := api.Record{Digest: c.digest(), Vocab: c.word(), Length: length, Tokens: l}
			b, e := record.Put(r)
			if e != api.OK {
				t.Fatalf("Put(%v ..): %v", short(r), e)
			}
			if got, e := record.Get(b); !same(got, r) || e != api.OK {
				t.Errorf("Get of Put of %v .. = %v .., %v", short(r), short(got), e)
			}
		}
	}
}

// Where Get answers OK, the bytes are what is put of it: there is one form alone.
func TestP13_3WhatIsGotIsPut(t *testing.T) {
	count := 0
	for _, end := range lists([]byte{0, 1, 2, 3, 0x20, 0x7f, 0x80, 0x81, 0xff}, 5) {
		b := behind(end)
		r, e := record.Get(b)
		if e != api.OK {
			continue
		}
		count++
		if again, e := record.Put(r); !bytes.Equal(again, b) || e != api.OK {
			t.Fatalf("Get(%x) = %v, of which is put %x, %v", b, r, again, e)
		}
	}
	if count < 1000 {
		t.Errorf("only %d records were got", count)
	}
}

func TestP13_3DocOfOfAndRightAndMayBe(t *testing.T) {
	for name, v := range right() {
		for i, doc := range docs() {
			r := made(t, v, numbers()[i], doc)
			if b, e := record.Doc(v, r); !bytes.Equal(b, doc) || e != api.OK {
				t.Errorf("%s: Doc of Of of %d bytes = %d bytes, %v", name, len(doc), len(b), e)
			}
			if !record.Right(v, r) {
				t.Errorf("%s: Of of %d bytes is not right", name, len(doc))
			}
			b, e := record.Put(r)
			if e != api.OK {
				t.Errorf("%s: Put of Of of %d bytes: %v", name, len(doc), e)
			}
			if got, e := record.Get(b); !same(got, r) || e != api.OK || !record.Right(v, got) {
				t.Errorf("%s: Get of Put of Of of %d bytes = %v .., %v", name, len(doc), short(got), e)
			}
		}
	}
}

// spoil: all of the list's elements, and what stands in the room behind its end, become x.
func spoil[T any](list []T, x T) {
	list = list[:cap(list)]
	for i := range list {
		list[i] = x
	}
}

func TestP13_1And2MemoryOfAnswersIsNew(t *testing.T) {
	v, doc := example(), []byte("abcab")
	r, other := made(t, v, 7, doc), made(t, v, 7, doc)
	first, _ := record.Put(r)
	second, _ := record.Put(r)
	spoil(first, 0xee)
	got, _ := record.Get(second)
	again, _ := record.Get(second)
	spoil(got.Tokens, -9)
	one, _ := record.Doc(v, r)
	two, _ := record.Doc(v, r)
	spoil(one, 'x')
	if want, _ := saidPut(r); !bytes.Equal(second, want) {
		t.Errorf("two answers of Put share memory: %x", second)
	}
	if !same(again, r) {
		t.Errorf("two answers of Get share memory: %v", again)
	}
	if string(two) != "abcab" {
		t.Errorf("two answers of Doc share memory: %q", two)
	}
	spoil(second, 0xee)
	if !same(again, r) {
		t.Errorf("an answer of Get shares memory with the bytes: %v", again)
	}
	spoil(r.Tokens, -9)
	if !slices.Equal(other.Tokens, []int{257, 256}) {
		t.Errorf("two answers of Of share memory: %v", other)
	}
	if string(doc) != "abcab" || !slices.Equal(v.Pieces, example().Pieces) {
		t.Errorf("what was handed in is shared: %q", doc)
	}
	none, _ := record.Put(api.Record{})
	spoil(none, 0xee)
	if none, _ = record.Put(api.Record{}); !bytes.Equal(none, make([]byte, 42)) {
		t.Errorf("answers of the zero record share memory: %x", none)
	}
}

func TestP13_1And2LeaveWhatTheyAreHanded(t *testing.T) {
	v := example()
	spare := append(v.Pieces, join(99, 99, 77))
	v.Pieces = spare[:len(spare)-1]
	doc := []byte("abcabcxyz")
	tokens := []int{257, 256, 99, -1, 1 << 30}
	own := made(t, v, 7, []byte("abcab"))
	own.Tokens = append(own.Tokens, 5, 6, 7)
	for n := range len(doc) + 1 {
		record.Of(v, 7, doc[:n])
	}
	for n := range len(tokens) + 1 {
		r := own
		r.Tokens = tokens[:n]
		record.Put(r)
		record.Doc(v, r)
		record.Right(v, r)
	}
	r := own
	r.Tokens = own.Tokens[:2]
	if !record.Right(v, r) {
		t.Errorf("%v is not right", r)
	}
	b := behind([]byte{3, 1, 0x82, 4, 9, 9})
	for n := range len(b) + 1 {
		record.Get(b[:n])
	}
	if _, e := record.Get(b[:44]); e != api.OK {
		t.Errorf("Get minds what stands in the room behind the end: %v", e)
	}
	if !slices.Equal(spare, append(example().Pieces, join(99, 99, 77))) {
		t.Errorf("the pieces that were handed in are others now")
	}
	if string(doc) != "abcabcxyz" || !slices.Equal(tokens, []int{257, 256, 99, -1, 1 << 30}) || !slices.Equal(own.Tokens, []int{257, 256, 5, 6, 7}) {
		t.Errorf("what was handed in is another now: %q, %d, %d", doc, tokens, own.Tokens)
	}
	if !bytes.Equal(b, behind([]byte{3, 1, 0x82, 4, 9, 9})) {
		t.Errorf("the bytes that were handed in are others now: %x", b)
	}
}
