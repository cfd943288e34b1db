package vocab_test

import (
	"bytes"
	"fmt"
	"math"
	"slices"
	"testing"

	"stook/api"
	"stook/deal"
	"stook/draw"
	"stook/vocab"
)

func join(left, right int, rank uint32) api.Piece {
	return api.Piece{Join: true, Left: left, Right: right, Rank: rank}
}

func of(l ...api.Piece) api.Vocab { return api.Vocab{Pieces: l} }

// with: the bytes, rising, and these pieces behind them.
func with(l ...api.Piece) api.Vocab {
	v := of()
	for c := range 256 {
		v.Pieces = append(v.Pieces, api.Piece{Byte: byte(c)})
	}
	v.Pieces = append(v.Pieces, l...)
	return v
}

// example: the P of the chapter's examples.
func example() api.Vocab { return with(join(97, 98, 5), join(256, 99, 2)) }

// doubles: n joins, each of the one ahead of it with itself: of 2 bytes, 4, and so on.
func doubles(n int) []api.Piece {
	l := []api.Piece{join(97, 97, 0)}
	for i := 1; i < n; i++ {
		l = append(l, join(255+i, 255+i, uint32(i)))
	}
	return l
}

// pairs: n joins of the bytes.
func pairs(n int) []api.Piece {
	var l []api.Piece
	for i := range n {
		l = append(l, join(i/256, i%256, uint32(n-i)))
	}
	return l
}

// saidBytes: the bytes of a token, as the words say them.
func saidBytes(l []api.Piece, token int) []byte {
	if p := l[token]; p.Join {
		return slices.Concat(saidBytes(l, p.Left), saidBytes(l, p.Right))
	}
	return []byte{l[token].Byte}
}

// saidPiece: what is wrong with a piece behind those ahead of it, as the words say it.
func saidPiece(ahead []api.Piece, p api.Piece) api.Errno {
	there := func(same func(q api.Piece) bool) bool { return slices.ContainsFunc(ahead, same) }
	if !p.Join {
		switch {
		case p.Left != 0 || p.Right != 0 || p.Rank != 0:
			return api.ErrForm
		case there(func(q api.Piece) bool { return !q.Join && q.Byte == p.Byte }):
			return api.ErrTwice
		}
		return api.OK
	}
	switch own := len(ahead); {
	case p.Byte != 0:
		return api.ErrForm
	case p.Left < 0 || p.Left >= own || p.Right < 0 || p.Right >= own:
		return api.ErrArg
	case len(saidBytes(ahead, p.Left))+len(saidBytes(ahead, p.Right)) > 256:
		return api.ErrLimit
	case there(func(q api.Piece) bool { return q.Join && q.Left == p.Left && q.Right == p.Right }):
		return api.ErrTwice
	case there(func(q api.Piece) bool { return q.Join && q.Rank == p.Rank }):
		return api.ErrTwice
	}
	return api.OK
}

// said: what is wrong with a vocabulary, and where, as the words say it.
func said(v api.Vocab) (api.Errno, int) {
	if len(v.Pieces) > 4096 {
		return api.ErrLimit, 0
	}
	for at, p := range v.Pieces {
		if e := saidPiece(v.Pieces[:at], p); e != api.OK {
			return e, at
		}
	}
	for c := range 256 {
		if !slices.Contains(v.Pieces, api.Piece{Byte: byte(c)}) {
			return api.ErrNone, len(v.Pieces)
		}
	}
	return api.OK, 0
}

// grown: a vocabulary that may be, of the bytes in some order and so many joins, which stand between them as well.
func grown(seed uint64, joins int) api.Vocab {
	order, e := deal.Deal(seed, 256)
	if e != api.OK {
		panic(e)
	}
	state := seed
	next := func(bound int) int {
		var n uint64
		n, state, _ = draw.Below(state, uint64(bound))
		return int(n)
	}
	v := of()
	for len(order) > 0 || joins > 0 {
		n := len(v.Pieces)
		if n == 0 || len(order) > 0 && (joins == 0 || next(2) == 0) {
			v.Pieces = append(v.Pieces, api.Piece{Byte: byte(order[0])})
			order = order[1:]
			continue
		}
		// Of two tokens the later one is the longer one, as a rule: so there are long ones.
		p := join(max(next(n), next(n)), max(next(n), next(n)), uint32(next(4000)))
		if saidPiece(v.Pieces, p) == api.OK {
			v.Pieces = append(v.Pieces, p)
			joins--
		}
	}
	return v
}

// right: vocabularies that may be.
func right() map[string]api.Vocab {
	m := map[string]api.Vocab{"plain": with(), "example": example(), "doubles": with(doubles(8)...), "full": with(pairs(3840)...)}
	for i, joins := range []int{1, 5, 60, 300} {
		m[fmt.Sprintf("grown with %d joins", joins)] = grown(uint64(i), joins)
	}
	return m
}

// wrong: vocabularies that may not be.
func wrong() map[string]api.Vocab {
	return map[string]api.Vocab{
		"none":              {},
		"a byte is missing": of(with().Pieces[1:]...),
		"a byte twice":      with(api.Piece{Byte: 5}),
		"too many":          with(pairs(3841)...),
		"too long":          with(doubles(9)...),
		"a rank twice":      with(join(97, 98, 5), join(256, 99, 5)),
		"a pair twice":      with(join(97, 98, 5), join(97, 98, 2)),
		"of itself":         with(join(97, 256, 5)),
		"a join's byte":     with(api.Piece{Join: true, Byte: 97, Left: 97, Right: 98}),
		"a byte's rank":     with(api.Piece{Byte: 97, Rank: 1}),
	}
}

func checked(t *testing.T, what string, v api.Vocab, e api.Errno, at int) {
	t.Helper()
	if got, place := vocab.Check(v); got != e || place != at {
		t.Errorf("%s: Check = %v, %d, not %v, %d", what, got, place, e, at)
	}
}

func TestP8_1Examples(t *testing.T) {
	checked(t, "the example", example(), api.OK, 0)
	checked(t, "none", api.Vocab{}, api.ErrNone, 0)
	checked(t, "no pieces", of([]api.Piece{}...), api.ErrNone, 0)
	checked(t, "5 twice", with(api.Piece{Byte: 5}), api.ErrTwice, 256)
	checked(t, "97 98 twice", with(append(example().Pieces[256:], join(97, 98, 7))...), api.ErrTwice, 258)
	checked(t, "rank 2 twice", with(append(example().Pieces[256:], join(1, 2, 2))...), api.ErrTwice, 258)
	checked(t, "of itself", with(join(1, 256, 1)), api.ErrArg, 256)
}

func TestP8_1AByte(t *testing.T) {
	for _, c := range []struct {
		p api.Piece
		e api.Errno
	}{
		{api.Piece{}, api.ErrTwice},
		{api.Piece{Byte: 255}, api.ErrTwice},
		{api.Piece{Left: 1}, api.ErrForm},
		{api.Piece{Left: -1}, api.ErrForm},
		{api.Piece{Right: 1}, api.ErrForm},
		{api.Piece{Right: math.MinInt}, api.ErrForm},
		{api.Piece{Rank: 1}, api.ErrForm},
		{api.Piece{Rank: math.MaxUint32}, api.ErrForm},
		{api.Piece{Byte: 9, Left: 97, Right: 98, Rank: 5}, api.ErrForm},
	} {
		what := fmt.Sprintf("%+v", c.p)
		checked(t, what+" last", with(join(97, 98, 5), c.p), c.e, 257)
		if c.e == api.ErrForm {
			checked(t, what+" first", of(append([]api.Piece{c.p}, with().Pieces...)...), c.e, 0)
			checked(t, what+" alone", of(c.p), c.e, 0)
		}
	}
	// Of each byte there is one: without it there is no vocabulary.
	for c := range 256 {
		checked(t, fmt.Sprintf("without %d", c), of(slices.Delete(with().Pieces, c, c+1)...), api.ErrNone, 255)
		checked(t, fmt.Sprintf("%d twice", c), with(api.Piece{Byte: byte(c)}), api.ErrTwice, 256)
		l := with(join(97, 98, 5)).Pieces
		l[c].Byte++
		checked(t, fmt.Sprintf("%d is another byte", c), of(l...), api.ErrTwice, min(c+1, 255))
	}
}

func TestP8_1AJoin(t *testing.T) {
	long := doubles(8)
	for _, c := range []struct {
		p api.Piece
		e api.Errno
	}{
		{join(1, 2, 100), api.OK},
		{join(0, 0, 100), api.OK},
		{join(1, 2, math.MaxUint32), api.OK},
		{join(97, 256, 100), api.OK},
		{join(256, 97, 100), api.OK},
		{join(257, 256, 100), api.OK},
		{join(262, 262, 100), api.ErrTwice}, // the pair is there, its bytes are 256
		{join(1, 2, 0), api.ErrTwice},
		{join(1, 2, 7), api.ErrTwice},
		{join(97, 97, 100), api.ErrTwice},
		{join(97, 97, 0), api.ErrTwice},
		{join(263, 0, 100), api.ErrLimit},
		{join(0, 263, 100), api.ErrLimit},
		{join(263, 263, 100), api.ErrLimit},
		{join(263, 263, 0), api.ErrLimit},
		{join(264, 0, 100), api.ErrArg},
		{join(0, 264, 100), api.ErrArg},
		{join(264, 264, 0), api.ErrArg},
		{join(265, 0, 100), api.ErrArg},
		{join(-1, 0, 100), api.ErrArg},
		{join(0, -1, 100), api.ErrArg},
		{join(-1, 263, 0), api.ErrArg},
		{join(math.MinInt, math.MaxInt, 100), api.ErrArg},
		{join(math.MaxInt, math.MinInt, 100), api.ErrArg},
		{join(0, math.MaxInt, 100), api.ErrArg},
		{join(1<<32, 1<<32+1, 100), api.ErrArg},
		{api.Piece{Join: true, Byte: 1, Left: 1, Right: 2, Rank: 100}, api.ErrForm},
		{api.Piece{Join: true, Byte: 255, Left: -1, Right: 263}, api.ErrForm},
	} {
		at := 264
		if c.e == api.OK {
			at = 0
		}
		checked(t, fmt.Sprintf("%+v", c.p), with(append(slices.Clone(long), c.p)...), c.e, at)
	}
}

// The bytes of a join are counted, not the joins in it: 256 are allowed, however they come together, 257 are not.
func TestP8_1ManyBytes(t *testing.T) {
	row := []api.Piece{join(7, 7, 0)}
	for i := 1; i < 255; i++ {
		row = append(row, join(255+i, 7, uint32(i)))
	}
	checked(t, "256 bytes", with(row...), api.OK, 0)
	checked(t, "257 bytes, one behind", with(append(slices.Clone(row), join(510, 7, 1000))...), api.ErrLimit, 511)
	checked(t, "257 bytes, one ahead", with(append(slices.Clone(row), join(7, 510, 1000))...), api.ErrLimit, 511)
	for i := range 255 {
		// The token 256 + i has i + 2 bytes, and 510 - i has 256 - i.
		checked(t, "258 bytes", with(append(slices.Clone(row), join(256+i, 510-i, 1000))...), api.ErrLimit, 511)
		if i < 253 {
			checked(t, "256 bytes of two", with(append(slices.Clone(row), join(256+i, 508-i, 1000))...), api.OK, 0)
			checked(t, "257 bytes of two", with(append(slices.Clone(row), join(256+i, 509-i, 1000))...), api.ErrLimit, 511)
		}
	}
}

func TestP8_1ManyPieces(t *testing.T) {
	checked(t, "4096 pieces", with(pairs(3840)...), api.OK, 0)
	checked(t, "4097 pieces", with(pairs(3841)...), api.ErrLimit, 0)
	checked(t, "4097 pieces, all wrong", of(make([]api.Piece, 4097)...), api.ErrLimit, 0)
	checked(t, "4097 pieces, the first wrong", of(append([]api.Piece{{Rank: 1}}, with(pairs(3840)...).Pieces...)...), api.ErrLimit, 0)
	checked(t, "4096 pieces, all but one wrong", of(make([]api.Piece, 4096)...), api.ErrTwice, 1)
	checked(t, "4096 pieces, the last wrong", with(append(pairs(3839), join(0, 0, 0))...), api.ErrTwice, 4095)
	checked(t, "4096 pieces, a byte is missing", of(append(slices.Delete(with().Pieces, 255, 256), pairs(3841)[:3800]...)...), api.ErrNone, 4055)
	checked(t, "very many", of(make([]api.Piece, 1<<20)...), api.ErrLimit, 0)
}

// Nothing is wrong with tokens of the same bytes, with a pair turned round, or with joins ahead of bytes.
func TestP8_1WhatMayBe(t *testing.T) {
	checked(t, "the same bytes", with(join(97, 98, 5), join(98, 99, 6), join(256, 99, 7), join(97, 257, 8)), api.OK, 0)
	checked(t, "turned round", with(join(97, 98, 5), join(98, 97, 6)), api.OK, 0)
	checked(t, "any ranks", with(join(97, 98, math.MaxUint32), join(98, 97, 0), join(1, 1, 1)), api.OK, 0)
	l := with().Pieces
	slices.Reverse(l)
	checked(t, "falling", of(l...), api.OK, 0)
	checked(t, "a join of one byte ahead of the others", of(slices.Insert(l, 1, join(0, 0, 9))...), api.OK, 0)
}

func TestP8_1AsTheWordsSayOfFewPieces(t *testing.T) {
	kinds := []api.Piece{
		{}, {Byte: 1}, {Byte: 1, Rank: 1}, {Left: 1},
		join(0, 0, 0), join(0, 0, 1), join(0, 1, 0), join(1, 0, 1), join(1, 1, 2), join(0, 2, 3), join(-1, 0, 0),
		{Join: true, Byte: 1},
	}
	rows := [][]api.Piece{nil}
	for range 4 {
		for _, row := range rows {
			e, at := said(of(row...))
			checked(t, fmt.Sprintf("%+v", row), of(row...), e, at)
		}
		var longer [][]api.Piece
		for _, row := range rows {
			for _, p := range kinds {
				longer = append(longer, append(slices.Clone(row), p))
			}
		}
		rows = longer
	}
}

// Each piece is changed in each of its fields, and taken out, and put twice.
func TestP8_1AsTheWordsSayOfOneChange(t *testing.T) {
	changes := []func(p *api.Piece){
		func(p *api.Piece) { p.Join = !p.Join },
		func(p *api.Piece) { p.Byte ^= 1 },
		func(p *api.Piece) { p.Byte += 100 },
		func(p *api.Piece) { p.Left++ },
		func(p *api.Piece) { p.Left = -1 - p.Left },
		func(p *api.Piece) { p.Left += 200 },
		func(p *api.Piece) { p.Right++ },
		func(p *api.Piece) { p.Right -= 100 },
		func(p *api.Piece) { p.Right = math.MaxInt },
		func(p *api.Piece) { p.Left, p.Right = p.Right, p.Left },
		func(p *api.Piece) { p.Rank++ },
		func(p *api.Piece) { p.Rank ^= 0x80 },
		func(p *api.Piece) { *p = join(p.Left, p.Right, 4001) },
		func(p *api.Piece) { *p = api.Piece{Byte: byte(p.Left)} },
	}
	met := map[api.Errno]int{}
	for seed := range uint64(3) {
		v := grown(100+seed, 40)
		for at := range v.Pieces {
			for i, change := range changes {
				w := of(slices.Clone(v.Pieces)...)
				change(&w.Pieces[at])
				e, place := said(w)
				checked(t, fmt.Sprintf("seed %d, change %d of piece %d", seed, i, at), w, e, place)
				met[e]++
			}
			out := of(slices.Delete(slices.Clone(v.Pieces), at, at+1)...)
			e, place := said(out)
			checked(t, fmt.Sprintf("seed %d, without piece %d", seed, at), out, e, place)
			twice := of(append(slices.Clone(v.Pieces), v.Pieces[at])...)
			e, place = said(twice)
			checked(t, fmt.Sprintf("seed %d, with piece %d twice", seed, at), twice, e, place)
		}
	}
	for _, e := range []api.Errno{api.OK, api.ErrForm, api.ErrArg, api.ErrTwice} {
		if met[e] < 10 {
			t.Errorf("only %d changes are %v", met[e], e)
		}
	}
}

func TestP8_1Plain(t *testing.T) {
	first := vocab.Plain()
	if len(first.Pieces) != 256 {
		t.Fatalf("Plain has %d pieces", len(first.Pieces))
	}
	for c, p := range first.Pieces {
		if p != (api.Piece{Byte: byte(c)}) {
			t.Errorf("piece %d of Plain is %+v", c, p)
		}
	}
	all := first.Pieces[:cap(first.Pieces)]
	for i := range all {
		all[i] = join(-1, -1, 7)
	}
	if second := vocab.Plain(); !slices.Equal(second.Pieces, with().Pieces) {
		t.Errorf("Plain shares its memory: %+v", second)
	}
}

func TestP8_2Examples(t *testing.T) {
	p := example()
	if b, e := vocab.Expand(p, 257); string(b) != "abc" || e != api.OK {
		t.Errorf("Expand(P, 257) = %q, %v", b, e)
	}
	if n, e := vocab.Size(p, 256); n != 2 || e != api.OK {
		t.Errorf("Size(P, 256) = %d, %v", n, e)
	}
	if n, e := vocab.Byte(p, 97); n != 97 || e != api.OK {
		t.Errorf("Byte(P, 97) = %d, %v", n, e)
	}
	if b, e := vocab.Expand(api.Vocab{}, 0); len(b) != 0 || e != api.ErrVocab {
		t.Errorf("Expand(none, 0) = %q, %v", b, e)
	}
	for _, token := range []int{258, -1} {
		if b, e := vocab.Expand(p, token); len(b) != 0 || e != api.ErrArg {
			t.Errorf("Expand(P, %d) = %q, %v", token, b, e)
		}
	}
}

func TestP8_2EachToken(t *testing.T) {
	for name, v := range right() {
		step := 1 + len(v.Pieces)/500
		for token := 0; token < len(v.Pieces); token += step {
			want := saidBytes(v.Pieces, token)
			if b, e := vocab.Expand(v, token); !bytes.Equal(b, want) || e != api.OK {
				t.Errorf("%s: Expand(%d) = %q, %v, not %q", name, token, b, e, want)
			}
			if n, e := vocab.Size(v, token); n != len(want) || e != api.OK {
				t.Errorf("%s: Size(%d) = %d, %v, not %d", name, token, n, e, len(want))
			}
		}
		for c := range 256 {
			token, e := vocab.Byte(v, byte(c))
			if e != api.OK || token < 0 || token >= len(v.Pieces) || v.Pieces[token] != (api.Piece{Byte: byte(c)}) {
				t.Errorf("%s: Byte(%d) = %d, %v", name, c, token, e)
			}
		}
	}
}

func TestP8_2NoSuchToken(t *testing.T) {
	for name, v := range right() {
		n := len(v.Pieces)
		for _, token := range []int{-1, n, n + 1, -n, math.MaxInt, math.MinInt, 1 << 32, -1 << 32, 1<<32 + 1} {
			if b, e := vocab.Expand(v, token); len(b) != 0 || e != api.ErrArg {
				t.Errorf("%s: Expand(%d) = %q, %v", name, token, b, e)
			}
			if size, e := vocab.Size(v, token); size != 0 || e != api.ErrArg {
				t.Errorf("%s: Size(%d) = %d, %v", name, token, size, e)
			}
		}
	}
}

// What the vocabulary is comes ahead of what is asked of it, even where what is asked for stands ahead of what is wrong.
func TestP8_2And3OfWhatMayNotBe(t *testing.T) {
	for name, v := range wrong() {
		for _, token := range []int{0, 97, 255, 256, 257, len(v.Pieces), -1, math.MaxInt} {
			if b, e := vocab.Expand(v, token); len(b) != 0 || e != api.ErrVocab {
				t.Errorf("%s: Expand(%d) = %q, %v", name, token, b, e)
			}
			if size, e := vocab.Size(v, token); size != 0 || e != api.ErrVocab {
				t.Errorf("%s: Size(%d) = %d, %v", name, token, size, e)
			}
		}
		for c := range 256 {
			if token, e := vocab.Byte(v, byte(c)); token != 0 || e != api.ErrVocab {
				t.Errorf("%s: Byte(%d) = %d, %v", name, c, token, e)
			}
		}
		for _, p := range append(slices.Clone(v.Pieces), join(97, 98, 0)) {
			if token, ok := vocab.Find(v, p.Left, p.Right); token != 0 || ok {
				t.Errorf("%s: Find(%d, %d) = %d, %v", name, p.Left, p.Right, token, ok)
			}
		}
		if l := vocab.Joins(v); len(l) != 0 {
			t.Errorf("%s: Joins = %d", name, l)
		}
		for token, b := range vocab.All(v) {
			t.Errorf("%s: All has %d, %q", name, token, b)
		}
	}
}

func TestP8_2SharesNoMemory(t *testing.T) {
	v := example()
	for token := range v.Pieces {
		want := saidBytes(v.Pieces, token)
		first, _ := vocab.Expand(v, token)
		second, _ := vocab.Expand(v, token)
		first = first[:cap(first)]
		for i := range first {
			first[i] ^= 0xff
		}
		third, _ := vocab.Expand(v, token)
		if !bytes.Equal(second, want) || !bytes.Equal(third, want) {
			t.Errorf("Expand(%d) = %q, %q, not %q", token, second, third, want)
		}
	}
}

func TestP8_3FindExamples(t *testing.T) {
	if token, ok := vocab.Find(example(), 256, 99); token != 257 || !ok {
		t.Errorf("Find(P, 256, 99) = %d, %v", token, ok)
	}
	if token, ok := vocab.Find(example(), 99, 256); token != 0 || ok {
		t.Errorf("Find(P, 99, 256) = %d, %v", token, ok)
	}
}

func TestP8_3FindEachJoin(t *testing.T) {
	for name, v := range right() {
		step := 1 + len(v.Pieces)/500
		for token := 0; token < len(v.Pieces); token += step {
			p := v.Pieces[token]
			if !p.Join {
				continue
			}
			if got, ok := vocab.Find(v, p.Left, p.Right); got != token || !ok {
				t.Errorf("%s: Find(%d, %d) = %d, %v, not %d", name, p.Left, p.Right, got, ok, token)
			}
			turned := slices.IndexFunc(v.Pieces, func(q api.Piece) bool { return q.Join && q.Left == p.Right && q.Right == p.Left })
			if got, ok := vocab.Find(v, p.Right, p.Left); ok != (turned >= 0) || got != max(turned, 0) {
				t.Errorf("%s: Find(%d, %d) = %d, %v, not %d", name, p.Right, p.Left, got, ok, turned)
			}
		}
	}
}

// A byte's Left and Right, 0 and 0, are no pair of its; neither is what is no token.
func TestP8_3FindWhatIsNotThere(t *testing.T) {
	for _, v := range []api.Vocab{with(), example()} {
		for _, c := range [][2]int{
			{0, 0}, {97, 97}, {98, 97}, {257, 257}, {97, 257}, {258, 258}, {-1, 0}, {0, -1}, {-1, -1},
			{math.MaxInt, math.MaxInt}, {math.MinInt, 98}, {97 + 1<<32, 98}, {97, 98 + 1<<32},
		} {
			if token, ok := vocab.Find(v, c[0], c[1]); token != 0 || ok {
				t.Errorf("Find(%d, %d) = %d, %v", c[0], c[1], token, ok)
			}
		}
	}
	if token, ok := vocab.Find(with(), 97, 98); token != 0 || ok {
		t.Errorf("Find of Plain = %d, %v", token, ok)
	}
	if token, ok := vocab.Find(with(join(0, 0, 0)), 0, 0); token != 256 || !ok {
		t.Errorf("Find(0, 0) = %d, %v", token, ok)
	}
}

func TestP8_3Joins(t *testing.T) {
	if l := vocab.Joins(example()); !slices.Equal(l, []int{257, 256}) {
		t.Errorf("Joins(P) = %d", l)
	}
	if l := vocab.Joins(with()); len(l) != 0 {
		t.Errorf("Joins of Plain = %d", l)
	}
	// Ranks are numbers without a sign.
	high := with(join(1, 1, math.MaxUint32), join(1, 2, 1<<31), join(1, 3, 0), join(1, 4, 1<<31-1), join(1, 5, 1))
	if l := vocab.Joins(high); !slices.Equal(l, []int{258, 260, 259, 257, 256}) {
		t.Errorf("Joins of high ranks = %d", l)
	}
	for name, v := range right() {
		l := vocab.Joins(v)
		for i := 1; i < len(l); i++ {
			if v.Pieces[l[i-1]].Rank >= v.Pieces[l[i]].Rank {
				t.Errorf("%s: Joins has %d ahead of %d", name, l[i-1], l[i])
			}
		}
		slices.Sort(l)
		var want []int
		for token, p := range v.Pieces {
			if p.Join {
				want = append(want, token)
			}
		}
		if !slices.Equal(l, want) {
			t.Errorf("%s: Joins, in line, are %d, not %d", name, l, want)
		}
	}
}

func TestP8_3JoinsSharesNoMemory(t *testing.T) {
	v := example()
	first := vocab.Joins(v)
	second := vocab.Joins(v)
	first = first[:cap(first)]
	for i := range first {
		first[i] = -1
	}
	if !slices.Equal(second, []int{257, 256}) || !slices.Equal(vocab.Joins(v), []int{257, 256}) {
		t.Errorf("Joins(P) = %d, %d", second, vocab.Joins(v))
	}
}

// goneOver: that all is the vocabulary's tokens up to the last one, behind which it is left.
func goneOver(t *testing.T, what string, all func(func(int, []byte) bool), v api.Vocab, last int) {
	t.Helper()
	n := 0
	for token, b := range all {
		if want := saidBytes(v.Pieces, n); token != n || !bytes.Equal(b, want) {
			t.Fatalf("%s: All has %d, %q, not %d, %q", what, token, b, n, want)
		}
		n++
		if token == last {
			break
		}
	}
	if want := min(last+1, len(v.Pieces)); n != want {
		t.Errorf("%s: All has %d tokens, not %d", what, n, want)
	}
}

func TestP8_3AllMayBeLeftAndGoneOverAgain(t *testing.T) {
	for name, v := range right() {
		all := vocab.All(v)
		for _, last := range []int{4096, 0, 4096, 255, 256, 1, 300, 4096} {
			goneOver(t, name, all, v, last)
		}
	}
	for range vocab.All(api.Vocab{}) {
		t.Error("All of none has a token")
	}
	vocab.All(api.Vocab{})(nil)
	vocab.All(example())(nil)
}

// One All, gone over while it is gone over.
func TestP8_3AllWithinAll(t *testing.T) {
	v := example()
	all := vocab.All(v)
	n := 0
	for token, b := range all {
		goneOver(t, fmt.Sprintf("within token %d", token), all, v, token)
		if token != n || !bytes.Equal(b, saidBytes(v.Pieces, n)) {
			t.Fatalf("All has %d, %q, not %d", token, b, n)
		}
		n++
	}
	if n != 258 {
		t.Errorf("All has %d tokens", n)
	}
}

// Neither what is done to the bytes that it told, nor what becomes of the list that it was handed, changes what All tells.
func TestP8_3AllSharesNoMemory(t *testing.T) {
	v := example()
	all := vocab.All(v)
	for range 2 {
		var kept [][]byte
		for token, b := range all {
			if !bytes.Equal(b, saidBytes(v.Pieces, token)) {
				t.Fatalf("All has %d, %q", token, b)
			}
			kept = append(kept, b)
			if token%2 == 0 {
				b = b[:cap(b)]
				for i := range b {
					b[i] ^= 0xff
				}
			}
		}
		for token := 1; token < len(kept); token += 2 {
			if !bytes.Equal(kept[token], saidBytes(v.Pieces, token)) {
				t.Errorf("token %d is %q behind the others", token, kept[token])
			}
		}
	}
	changed := example()
	all = vocab.All(changed)
	for token, b := range all {
		for i := range changed.Pieces {
			changed.Pieces[i] = join(-1, i, 0)
		}
		if !bytes.Equal(b, saidBytes(v.Pieces, token)) {
			t.Fatalf("All has %d, %q, once the list is another one", token, b)
		}
	}
	goneOver(t, "once the list is another one", all, v, 4096)
}

func TestP8_1To3LeaveWhatTheyAreHanded(t *testing.T) {
	tail := []api.Piece{join(-7, -7, 7), {Byte: 7, Rank: 7}}
	for name, v := range map[string]api.Vocab{"right": grown(9, 30), "wrong": with(join(97, 98, 5), join(1, 2, 5))} {
		want := append(slices.Clone(v.Pieces), tail...)
		l := slices.Clone(want)
		v.Pieces = l[:len(v.Pieces)]
		vocab.Check(v)
		vocab.Expand(v, 280)
		vocab.Size(v, 280)
		vocab.Byte(v, 200)
		vocab.Find(v, 97, 98)
		vocab.Joins(v)
		for range vocab.All(v) {
		}
		if !slices.Equal(l, want) {
			t.Errorf("%s: what was handed in is another one now", name)
		}
	}
}

func TestP8_4PlainAndBeginningsMayBe(t *testing.T) {
	checked(t, "Plain", vocab.Plain(), api.OK, 0)
	for name, v := range right() {
		all := 0 // how many pieces there are up to the last of the bytes
		for token, p := range v.Pieces {
			if !p.Join {
				all = token + 1
			}
		}
		step := 1 + len(v.Pieces)/600
		for n := 0; n <= len(v.Pieces); n += step {
			if n < all {
				checked(t, fmt.Sprintf("%s, %d pieces", name, n), of(v.Pieces[:n]...), api.ErrNone, n)
			} else {
				checked(t, fmt.Sprintf("%s, %d pieces", name, n), of(v.Pieces[:n]...), api.OK, 0)
			}
		}
	}
}

func TestP8_4Sizes(t *testing.T) {
	longest := 0
	for name, v := range right() {
		sizes := make([]int, len(v.Pieces))
		for token, b := range vocab.All(v) {
			sizes[token] = len(b)
			longest = max(longest, len(b))
			if len(b) < 1 || len(b) > api.MaxPiece {
				t.Errorf("%s: token %d has %d bytes", name, token, len(b))
			}
		}
		for token, p := range v.Pieces {
			if want := sizes[p.Left] + sizes[p.Right]; p.Join && sizes[token] != want {
				t.Errorf("%s: token %d has %d bytes, not %d", name, token, sizes[token], want)
			}
			if !p.Join && sizes[token] != 1 {
				t.Errorf("%s: the byte %d has %d bytes", name, token, sizes[token])
			}
		}
	}
	if longest != api.MaxPiece {
		t.Errorf("the longest token has %d bytes", longest)
	}
}
