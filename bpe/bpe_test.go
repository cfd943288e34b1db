package bpe_test

import (
	"bytes"
	"fmt"
	"math"
	"slices"
	"strings"
	"testing"

	"stook/api"
	"stook/bpe"
	"stook/vocab"
)

// encode: the tokens of the bytes, which must be there.
func encode(t *testing.T, v api.Vocab, b []byte) []int {
	t.Helper()
	l, e := bpe.Encode(v, b)
	if e != api.OK {
		t.Fatalf("Encode of %d bytes: %v", len(b), e)
	}
	return l
}

// encoded: that the tokens of the bytes are these.
func encoded(t *testing.T, what string, v api.Vocab, b []byte, want []int) {
	t.Helper()
	if l, e := bpe.Encode(v, b); !slices.Equal(l, want) || e != api.OK {
		t.Errorf("%s: Encode(%q) = %d, %v, not %d", what, b, l, e, want)
	}
}

// begun: that the row that one begins with is this one.
func begun(t *testing.T, what string, v api.Vocab, b []byte, want []int) {
	t.Helper()
	if l, e := bpe.Begin(v, b); !slices.Equal(l, want) || e != api.OK {
		t.Errorf("%s: Begin(%q) = %d, %v, not %d", what, b, l, e, want)
	}
}

// stepped: that the row behind a step is this one.
func stepped(t *testing.T, what string, v api.Vocab, l, want []int, did bool) {
	t.Helper()
	if out, d, e := bpe.Step(v, l); !slices.Equal(out, want) || d != did || e != api.OK {
		t.Errorf("%s: Step(%d) = %d, %t, %v, not %d, %t", what, l, out, d, e, want, did)
	}
}

// decoded: that the bytes of the tokens are these.
func decoded(t *testing.T, what string, v api.Vocab, l []int, want []byte) {
	t.Helper()
	if b, e := bpe.Decode(v, l); !bytes.Equal(b, want) || e != api.OK {
		t.Errorf("%s: Decode(%d) = %q, %v, not %q", what, l, b, e, want)
	}
}

// Refusals: that there is this error, and nothing beside.

func bytesRefused(t *testing.T, what string, v api.Vocab, b []byte, e api.Errno) {
	t.Helper()
	if l, got := bpe.Begin(v, b); len(l) != 0 || got != e {
		t.Errorf("%s: Begin of %d bytes = %d tokens, %v, not %v", what, len(b), len(l), got, e)
	}
	if l, got := bpe.Encode(v, b); len(l) != 0 || got != e {
		t.Errorf("%s: Encode of %d bytes = %d tokens, %v, not %v", what, len(b), len(l), got, e)
	}
}

func stepRefused(t *testing.T, what string, v api.Vocab, l []int, e api.Errno) {
	t.Helper()
	if out, did, got := bpe.Step(v, l); len(out) != 0 || did || got != e {
		t.Errorf("%s: Step of %d tokens = %d tokens, %t, %v, not %v", what, len(l), len(out), did, got, e)
	}
}

func decodeRefused(t *testing.T, what string, v api.Vocab, l []int, e api.Errno) {
	t.Helper()
	if b, got := bpe.Decode(v, l); len(b) != 0 || got != e {
		t.Errorf("%s: Decode of %d tokens = %d bytes, %v, not %v", what, len(l), len(b), got, e)
	}
}

// notOnes: what is no token of the vocabulary.
func notOnes(v api.Vocab) []int {
	n := len(v.Pieces)
	return []int{-1, n, n + 1, -n, 4096, math.MaxInt, math.MinInt, 97 + 1<<32, 97 - 1<<32, 1 << 31, -1 << 31}
}

func TestP10_1Begin(t *testing.T) {
	begun(t, "none", example(), nil, nil)
	begun(t, "no bytes", example(), []byte{}, nil)
	begun(t, "the example", example(), []byte("abca\x00\xff"), []int{97, 98, 99, 97, 0, 255})
	var all []byte
	for c := range 256 {
		all = append(all, byte(c))
	}
	for name, v := range right() {
		begun(t, name, v, all, saidOf(v).begin(all))
		for c := range 256 {
			begun(t, name, v, []byte{byte(c)}, saidOf(v).begin([]byte{byte(c)}))
		}
	}
	// The bytes falling, with a join between them: a byte's token is where it stands.
	l := vocab.Plain().Pieces
	slices.Reverse(l)
	turned := of(slices.Insert(l, 200, join(1, 2, 7))...)
	begun(t, "turned", turned, []byte("\xff\x00ab7"), []int{0, 256, 158, 157, 201})
}

func TestP10_1And2HowManyBytes(t *testing.T) {
	for name, v := range right() {
		most := bytes.Repeat([]byte("abcd"), 1024)
		if l, e := bpe.Begin(v, most); len(l) != 4096 || e != api.OK {
			t.Errorf("%s: Begin of 4096 bytes = %d tokens, %v", name, len(l), e)
		}
		if l, e := bpe.Encode(v, most); len(l) == 0 || e != api.OK {
			t.Errorf("%s: Encode of 4096 bytes = %d tokens, %v", name, len(l), e)
		}
		for _, more := range []int{4097, 4098, 65536, 1 << 20} {
			bytesRefused(t, name, v, make([]byte, more), api.ErrLimit)
			bytesRefused(t, name, v, bytes.Repeat([]byte("a"), more), api.ErrLimit)
		}
	}
}

// What the vocabulary is comes ahead of all else.
func TestP10_1And2OfWhatMayNotBe(t *testing.T) {
	for name, v := range wrong() {
		for _, b := range []string{"", "a", "abc", "\x00", strings.Repeat("a", 4096), strings.Repeat("a", 4097)} {
			bytesRefused(t, name, v, []byte(b), api.ErrVocab)
		}
		for _, l := range [][]int{nil, {0}, {97, 98}, {-1}, {math.MaxInt}, make([]int, 4096), make([]int, 4097), slices.Repeat([]int{-1}, 5000)} {
			stepRefused(t, name, v, l, api.ErrVocab)
			decodeRefused(t, name, v, l, api.ErrVocab)
		}
	}
}

func TestP10_1StepExamples(t *testing.T) {
	stepped(t, "bc behind ab", example(), []int{97, 98, 98, 99}, []int{256, 98, 99}, true)
	stepped(t, "bc", example(), []int{256, 98, 99}, []int{256, 258}, true)
	stepped(t, "abc", example(), []int{257}, []int{257}, false)
	stepRefused(t, "259", example(), []int{259}, api.ErrArg)
}

func TestP10_1StepNothingToJoin(t *testing.T) {
	for name, v := range right() {
		stepped(t, name, v, nil, nil, false)
		stepped(t, name, v, []int{}, nil, false)
		for token := 0; token < len(v.Pieces); token += 1 + len(v.Pieces)/300 {
			stepped(t, name, v, []int{token}, []int{token}, false)
		}
	}
	stepped(t, "bytes alone", with(), []int{97, 98, 99, 97, 98}, []int{97, 98, 99, 97, 98}, false)
	stepped(t, "turned round", example(), []int{98, 97, 99, 256}, []int{98, 97, 99, 256}, false)
	stepped(t, "not side by side", example(), []int{97, 1, 98, 1, 99}, []int{97, 1, 98, 1, 99}, false)
	stepped(t, "the same bytes, of other tokens", with(join(97, 98, 1), join(98, 99, 2), join(256, 99, 3)), []int{97, 257}, []int{97, 257}, false)
}

// The least rank goes first, wherever it stands; of one pair that stands at many places the leftmost.
func TestP10_1StepLeastThenLeftmost(t *testing.T) {
	v := example()
	stepped(t, "ab ab", v, []int{97, 98, 97, 98}, []int{256, 97, 98}, true)
	stepped(t, "bc ab", v, []int{98, 99, 97, 98}, []int{98, 99, 256}, true)
	stepped(t, "ab ahead of abc", v, []int{97, 98, 256, 99}, []int{97, 98, 257}, true)
	stepped(t, "one step, not two", v, []int{97, 98, 99}, []int{256, 99}, true)
	a := with(doubles(8, rising)...)
	stepped(t, "aaa", a, []int{97, 97, 97}, []int{256, 97}, true)
	stepped(t, "aaaa", a, []int{97, 97, 97, 97}, []int{256, 97, 97}, true)
	stepped(t, "aa aa a a", a, []int{256, 256, 97, 97}, []int{256, 256, 256}, true)
	stepped(t, "aa aa a a, ranks falling", with(doubles(8, falling)...), []int{256, 256, 97, 97}, []int{257, 97, 97}, true)
	// Ranks are numbers without a sign.
	r := right()["any ranks"]
	stepped(t, "the greatest rank", r, []int{98, 97}, []int{257}, true)
	stepped(t, "the least rank", r, []int{98, 97, 98}, []int{98, 256}, true)
	stepped(t, "2^31 and 2^31 - 1", r, []int{256, 97, 97}, []int{256, 259}, true)
	stepped(t, "2^31 and the greatest", r, []int{98, 97, 256, 97}, []int{98, 97, 258}, true)
}

func TestP10_1StepRefused(t *testing.T) {
	for name, v := range right() {
		for _, token := range notOnes(v) {
			for at := range 3 {
				stepRefused(t, name, v, slices.Insert([]int{97, 98}, at, token), api.ErrArg)
			}
			stepRefused(t, name, v, []int{token}, api.ErrArg)
			long := make([]int, 4096)
			for _, at := range []int{0, 2000, 4095} {
				long[at] = token
				stepRefused(t, name, v, long, api.ErrArg)
			}
			// How many they are comes ahead of what they are.
			stepRefused(t, name, v, append(long, 0), api.ErrLimit)
			stepRefused(t, name, v, slices.Repeat([]int{token}, 4097), api.ErrLimit)
		}
		stepRefused(t, name, v, make([]int, 4097), api.ErrLimit)
		stepRefused(t, name, v, make([]int, 1<<20), api.ErrLimit)
	}
}

// Tokens are counted, not their bytes.
func TestP10_1StepOfManyBytes(t *testing.T) {
	v := with(doubles(8, rising)...)
	most := slices.Repeat([]int{263}, 4096)
	stepped(t, "4096 of 256 bytes", v, most, most, false)
	most[4094], most[4095] = 97, 97
	stepped(t, "two last that can be joined", v, most, append(slices.Clone(most[:4094]), 256), true)
	stepRefused(t, "4097 of 256 bytes", v, append(most, 263), api.ErrLimit)
}

// Rows of any tokens, such as no bytes come to, too.
func TestP10_1StepAsTheWordsSay(t *testing.T) {
	for name, v := range right() {
		s := saidOf(v)
		var kinds []int
		for token, p := range v.Pieces {
			if (p.Join || p.Byte == 'a' || p.Byte == 'b') && len(kinds) < 6 {
				kinds = append(kinds, token)
			}
		}
		most := 4
		if len(v.Pieces) > 300 {
			most = 3 // a greater vocabulary costs more to look at
		}
		for _, l := range rows(kinds, most) {
			want, did := s.step(l)
			stepped(t, name, v, l, want, did)
		}
		c := &chance{77}
		for n := range 60 {
			var l []int
			for range n * n {
				l = append(l, c.below(min(len(v.Pieces), 12)))
			}
			want, did := s.step(l)
			stepped(t, name, v, l, want, did)
		}
	}
}

func TestP10_2EncodeExamples(t *testing.T) {
	v := example()
	encoded(t, "abc", v, []byte("abc"), []int{257})
	encoded(t, "bcab", v, []byte("bcab"), []int{258, 256})
	encoded(t, "aab", v, []byte("aab"), []int{97, 256})
	encoded(t, "none", v, nil, nil)
	encoded(t, "no bytes", v, []byte{}, nil)
	encoded(t, "abcab, as the document's page says", with(join(97, 98, 1), join(256, 99, 0)), []byte("abcab"), []int{257, 256})
	bytesRefused(t, "by none", api.Vocab{}, []byte("a"), api.ErrVocab)
}

// Each vocabulary of up to three joins of the letters a and b, or of joins, with its ranks in each order: of each row of
// up to seven letters. They are cut into tokens all at once, with a byte of no join between one and the next.
func TestP10_2EncodeAsTheWordsSayOfFewJoins(t *testing.T) {
	words := rows([]byte("ab"), 7)
	document := bytes.Join(words, []byte{'|'})
	ranks := map[int][][3]uint32{
		0: {{}},
		1: {{7}},
		2: {{1, 2}, {2, 1}},
		3: {{1, 2, 3}, {1, 3, 2}, {2, 1, 3}, {2, 3, 1}, {3, 1, 2}, {3, 2, 1}},
	}
	tried := 0
	for n, orders := range ranks {
		for _, pairs := range pairLists(n) {
			for _, order := range orders {
				v := of(api.Piece{Byte: 'a'}, api.Piece{Byte: 'b'})
				for i, p := range pairs {
					v.Pieces = append(v.Pieces, join(p[0], p[1], order[i]))
				}
				for _, p := range vocab.Plain().Pieces {
					if p.Byte != 'a' && p.Byte != 'b' {
						v.Pieces = append(v.Pieces, p)
					}
				}
				wordsEncoded(t, v, words, document)
				tried++
			}
		}
	}
	if tried != 1+4+4*8*2+4*8*14*6 {
		t.Errorf("%d vocabularies", tried)
	}
}

// pairLists: each list of n unlike pairs of what stands ahead of them: of two letters, and of the joins of the pairs ahead.
func pairLists(n int) [][][2]int {
	lists := [][][2]int{nil}
	for i := range n {
		var longer [][][2]int
		for _, list := range lists {
			for left := range 2 + i {
				for right := range 2 + i {
					if p := [2]int{left, right}; !slices.Contains(list, p) {
						longer = append(longer, append(slices.Clone(list), p))
					}
				}
			}
		}
		lists = longer
	}
	return lists
}

// wordsEncoded: that the tokens of the document, which has the words with a byte between one and the next, are those of
// each word, as the words of the chapter say.
func wordsEncoded(t *testing.T, v api.Vocab, words [][]byte, document []byte) {
	t.Helper()
	s := saidOf(v)
	between := s.begin([]byte{'|'})[0]
	l := encode(t, v, document)
	for _, word := range words {
		end := slices.Index(l, between)
		if end < 0 {
			end = len(l)
		}
		if want := s.tokens(word); !slices.Equal(l[:end], want) {
			t.Fatalf("with %+v: %q is %d, not %d", v.Pieces[2:5], word, l[:end], want)
		}
		l = l[min(end+1, len(l)):]
	}
	if len(l) > 0 {
		t.Fatalf("with %+v: behind the words stand %d", v.Pieces[2:5], l)
	}
}

func TestP10_2EncodeAsTheWordsSay(t *testing.T) {
	for name, v := range right() {
		s := saidOf(v)
		most := 5
		if len(v.Pieces) > 300 {
			most = 4
		}
		for _, b := range rows([]byte("abc"), most) {
			encoded(t, name, v, b, s.tokens(b))
		}
		c := &chance{5}
		for n := range 30 {
			for _, letters := range []string{"ab", "abcd", "aaaaaaab", "abcdefgh\x00\xff"} {
				b := c.bytes(letters, n*n)
				encoded(t, name, v, b, s.tokens(b))
			}
		}
	}
}

func TestP10_2EncodeAsTheWordsSayAtTheLimit(t *testing.T) {
	for name, v := range right() {
		s := saidOf(v)
		b := (&chance{6}).bytes("abc", 4096)
		encoded(t, name, v, b, s.tokens(b))
	}
}

// Of bytes that are all the same each step is of the leftmost pair: what is left over is left over on the right.
func TestP10_2EncodeOfOneByte(t *testing.T) {
	triple := with(join(97, 97, 7), join(256, 97, 8))
	for name, v := range map[string]api.Vocab{
		"doubles":                with(doubles(8, rising)...),
		"doubles falling":        with(doubles(8, falling)...),
		"triple":                 triple,
		"triple, the later less": with(join(97, 97, 8), join(256, 97, 7)),
		"triple from the right":  with(join(97, 97, 7), join(97, 256, 8)),
		"one":                    right()["one"],
	} {
		s := saidOf(v)
		for n := range 300 {
			b := bytes.Repeat([]byte("a"), n)
			encoded(t, name, v, b, s.tokens(b))
		}
	}
	encoded(t, "aaaaa", triple, []byte("aaaaa"), []int{256, 257})
	encoded(t, "baab", triple, []byte("baab"), []int{98, 256, 98})
	most := encode(t, with(doubles(8, rising)...), bytes.Repeat([]byte("a"), 4096))
	if !slices.Equal(most, slices.Repeat([]int{263}, 16)) {
		t.Errorf("4096 bytes are %d", most)
	}
}

func TestP10_2DecodeExamples(t *testing.T) {
	decoded(t, "257 256", example(), []int{257, 256}, []byte("abcab"))
	decodeRefused(t, "-1", example(), []int{-1}, api.ErrArg)
	decoded(t, "none", example(), nil, nil)
	decoded(t, "no tokens", example(), []int{}, nil)
}

func TestP10_2DecodeEachToken(t *testing.T) {
	for name, v := range right() {
		s := saidOf(v)
		for token := 0; token < len(v.Pieces); token += 1 + len(v.Pieces)/400 {
			decoded(t, name, v, []int{token}, s.bytes(token))
		}
		c := &chance{8}
		for n := range 30 {
			var l []int
			for range n {
				l = append(l, c.below(min(len(v.Pieces), 300)))
			}
			if want := s.bytes(l...); len(want) <= 4096 {
				decoded(t, name, v, l, want)
			} else {
				decodeRefused(t, name, v, l, api.ErrLimit)
			}
		}
	}
}

// The bytes are counted, not the tokens.
func TestP10_2DecodeHowManyBytes(t *testing.T) {
	v := with(doubles(8, rising)...)
	s := saidOf(v)
	full := slices.Repeat([]int{263}, 16)
	mixed := append(slices.Repeat([]int{263}, 15), 0, 262) // 15 times 256, 1, and 128
	for what, l := range map[string][]int{
		"16 of 256 bytes": full,
		"bytes":           make([]int, 4096),
		"mixed":           append(mixed, make([]int, 127)...),
	} {
		want := s.bytes(l...)
		if len(want) != 4096 {
			t.Fatalf("%s: %d bytes", what, len(want))
		}
		decoded(t, what, v, l, want)
		for _, token := range []int{0, 255, 256, 263} {
			for _, at := range []int{0, len(l) / 2, len(l)} {
				decodeRefused(t, what, v, slices.Insert(slices.Clone(l), at, token), api.ErrLimit)
			}
		}
		for _, at := range []int{0, len(l) / 2, len(l) - 1} {
			less := slices.Delete(slices.Clone(l), at, at+1)
			decoded(t, what, v, less, s.bytes(less...))
		}
	}
	decodeRefused(t, "very many", v, make([]int, 1<<22), api.ErrLimit)
	decodeRefused(t, "very many of 256 bytes", v, slices.Repeat([]int{263}, 1<<20), api.ErrLimit)
}

// What they are comes ahead of how many bytes they have.
func TestP10_2DecodeNoToken(t *testing.T) {
	for name, v := range right() {
		for _, token := range notOnes(v) {
			for _, n := range []int{0, 1, 3, 4096, 4097, 10000} {
				l := slices.Repeat([]int{1}, n)
				decodeRefused(t, name, v, append(slices.Clone(l), token), api.ErrArg)
				decodeRefused(t, name, v, append([]int{token}, l...), api.ErrArg)
			}
		}
	}
	decodeRefused(t, "very many", example(), append(make([]int, 1<<22), 259), api.ErrArg)
}

// texts: bytes of all kinds.
func texts() [][]byte {
	c := &chance{9}
	l := [][]byte{nil, []byte("a"), []byte("the cab had a bad dad"), bytes.Repeat([]byte("abcd"), 1024)}
	var all []byte
	for b := range 256 {
		all = append(all, byte(b))
	}
	l = append(l, all)
	for n := 2; n <= 2048; n *= 2 {
		l = append(l, c.bytes("ab", n-1), c.bytes("abc", n), c.bytes("aabbcd\x00\x80\xff", n+1))
	}
	return l
}

func TestP10_3DecodeOfEncode(t *testing.T) {
	for name, v := range right() {
		for _, b := range texts() {
			decoded(t, name, v, encode(t, v, b), b)
			l, e := bpe.Begin(v, b)
			if e != api.OK || len(l) != len(b) {
				t.Errorf("%s: Begin of %d bytes = %d tokens, %v", name, len(b), len(l), e)
			}
			decoded(t, name, v, l, b)
		}
	}
}

func TestP10_3EncodeIsStepOfStep(t *testing.T) {
	for name, v := range right() {
		for _, b := range texts() {
			if len(b) > 300 || len(b) > 70 && len(v.Pieces) > 300 {
				continue
			}
			l, e := bpe.Begin(v, b)
			for did := true; did; {
				var out []int
				out, did, e = bpe.Step(v, l)
				if e != api.OK || did && len(out) != len(l)-1 || !did && !slices.Equal(out, l) {
					t.Fatalf("%s: Step(%d) = %d, %t, %v", name, l, out, did, e)
				}
				decoded(t, name+", behind a step", v, out, b)
				l = out
			}
			encoded(t, name, v, b, l)
		}
	}
}

func TestP10_3StepOfEncodeDoesNothing(t *testing.T) {
	for name, v := range right() {
		for _, b := range texts() {
			l := encode(t, v, b)
			stepped(t, name, v, l, l, false)
		}
	}
}

// stand: whether the two stand side by side in the row.
func stand(l []int, left, right int) bool {
	for i := 1; i < len(l); i++ {
		if l[i-1] == left && l[i] == right {
			return true
		}
	}
	return false
}

// later: joins of a greater rank than all others, of the first few tokens that are of the letters, for which there is none.
func later(v api.Vocab) []api.Piece {
	const least = 1 << 30
	var kinds []int
	for token, p := range v.Pieces {
		if p.Rank >= least {
			return nil
		}
		if (p.Join || p.Byte >= 'a' && p.Byte <= 'c') && len(kinds) < 6 {
			kinds = append(kinds, token)
		}
	}
	var l []api.Piece
	for _, left := range kinds {
		for _, right := range kinds {
			p := join(left, right, least+uint32(len(l)))
			if e, _ := vocab.Check(of(slices.Concat(v.Pieces, l, []api.Piece{p})...)); e == api.OK {
				l = append(l, p)
			}
		}
	}
	return l
}

// A join of the greatest rank comes last: it changes a row just if its pair stands there when nothing else can be joined.
func TestP10_3JoinsOfGreaterRank(t *testing.T) {
	changed, same := 0, 0
	for name, v := range right() {
		joins := later(v)
		for _, b := range texts() {
			if len(b) > 600 {
				continue
			}
			l := encode(t, v, b)
			var idle []api.Piece
			for _, p := range joins {
				if !stand(l, p.Left, p.Right) {
					idle = append(idle, p)
					continue
				}
				changed++
				if got := encode(t, of(append(slices.Clone(v.Pieces), p)...), b); !slices.Contains(got, len(v.Pieces)) {
					t.Errorf("%s: by %+v %q is %d, as without it", name, p, b, got)
				}
			}
			same += len(idle)
			encoded(t, name+", with joins behind it", of(append(slices.Clone(v.Pieces), idle...)...), b, l)
			stepped(t, name+", with joins behind it", of(append(slices.Clone(v.Pieces), idle...)...), l, l, false)
		}
	}
	if changed < 100 || same < 1000 {
		t.Errorf("%d joins' pairs stand there, %d don't", changed, same)
	}
}

// One join more of the least rank, on the other hand, goes ahead of all.
func TestP10_3AJoinOfLessRank(t *testing.T) {
	encoded(t, "as it is", example(), []byte("abc"), []int{257})
	encoded(t, "bc first", with(join(97, 98, 5), join(256, 99, 2), join(98, 99, 1)), []byte("abc"), []int{97, 258})
}

func TestP10_1To3MemoryOfAnswersIsNew(t *testing.T) {
	v := example()
	b := []byte("abcab|bcab")
	l := []int{257, 256, 124, 258, 256}
	spoil := func(l []int) {
		for i := range l[:cap(l)] {
			l[:cap(l)][i] = -9
		}
	}
	for range 3 {
		begin, _ := bpe.Begin(v, b)
		first, _ := bpe.Encode(v, b)
		second, _ := bpe.Encode(v, b)
		if !slices.Equal(first, l) {
			t.Fatalf("Encode = %d", first)
		}
		still, did, _ := bpe.Step(v, second)
		step, _, _ := bpe.Step(v, begin)
		back, _ := bpe.Decode(v, second)
		spoil(first)
		spoil(still)
		if !slices.Equal(second, l) || did {
			t.Fatalf("answers share memory: %d", second)
		}
		spoil(step)
		for i, c := range b {
			if begin[i] != int(c) {
				t.Fatalf("answers of Step share memory with the row: %d", begin)
			}
		}
		clear(back[:cap(back)])
		if again, _ := bpe.Decode(v, second); !bytes.Equal(again, b) {
			t.Fatalf("answers of Decode share memory: %q", again)
		}
	}
}

func TestP10_1To3LeaveWhatTheyAreHanded(t *testing.T) {
	tail := []api.Piece{join(-7, -7, 7), {Byte: 7, Rank: 7}}
	for name, v := range map[string]api.Vocab{"right": example(), "wrong": with(join(97, 98, 5), join(1, 2, 5))} {
		pieces := append(slices.Clone(v.Pieces), tail...)
		was := slices.Clone(pieces)
		v.Pieces = pieces[:len(v.Pieces)]
		row := []int{97, 98, 99, 97, 98, 99, 97, 98, 99}
		b := []byte("abcabcabcabc")
		for n := range len(row) {
			bpe.Begin(v, b[:n])
			bpe.Encode(v, b[:n])
			bpe.Step(v, row[:n])
			bpe.Decode(v, row[:n])
		}
		bpe.Step(v, append(row[:3:3], -1))
		bpe.Decode(v, append(row[:3:3], -1))
		if !slices.Equal(pieces, was) || string(b) != "abcabcabcabc" || !slices.Equal(row, []int{97, 98, 99, 97, 98, 99, 97, 98, 99}) {
			t.Errorf("%s: what was handed in is another one now: %q, %d", name, b, row)
		}
	}
}

// What is answered hangs on nothing that was asked before.
func TestP10_1To3TheSameAgain(t *testing.T) {
	v, other := right()["two"], right()["three"]
	b := (&chance{10}).bytes("abc", 500)
	want := fmt.Sprint(encode(t, v, b))
	for range 5 {
		encode(t, other, b[:100])
		bpe.Step(other, []int{0, 1, 2})
		bpe.Decode(other, []int{-1})
		if got := fmt.Sprint(encode(t, v, b)); got != want {
			t.Fatalf("Encode = %s, not %s", got, want)
		}
	}
}
