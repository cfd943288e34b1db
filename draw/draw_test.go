package draw_test

import (
	"math"
	"math/big"
	"testing"

	"stook/api"
	"stook/draw"
)

const (
	half     = 1 << 63
	greatest = math.MaxUint64
	stride   = 0x9e3779b97f4a7c15
	most     = 64 // how many words Below takes at most
)

// wrapped: the lowest 64 bits of n.
func wrapped(n *big.Int) *big.Int {
	return new(big.Int).Mod(n, new(big.Int).Lsh(big.NewInt(1), 64))
}

// number: n as one of great numbers.
func number(n uint64) *big.Int {
	return new(big.Int).SetUint64(n)
}

// saidMix: to mix a number, as the words say it, in numbers that do not wrap round by themselves.
func saidMix(z uint64) uint64 {
	n := number(z)
	down := func(by uint) { n = new(big.Int).Xor(n, new(big.Int).Rsh(n, by)) }
	times := func(by uint64) { n = wrapped(new(big.Int).Mul(n, number(by))) }
	down(30)
	times(0xbf58476d1ce4e5b9)
	down(27)
	times(0x94d049bb133111eb)
	down(31)
	return n.Uint64()
}

// saidNext: a state's word and its next one, as the words say them.
func saidNext(state uint64) (word, next uint64) {
	next = wrapped(new(big.Int).Add(number(state), number(stride))).Uint64()
	return saidMix(next), next
}

// saidBelow: what P5.3 says, clause by clause; and how many words it had.
func saidBelow(state, n uint64) (k, next uint64, had int, e api.Errno) {
	if n == 0 {
		return 0, 0, 0, api.ErrArg
	}
	all := new(big.Int).Lsh(big.NewInt(1), 64)
	multiple := new(big.Int).Mul(new(big.Int).Div(all, number(n)), number(n))
	word, next := saidNext(state)
	had = 1
	for number(word).Cmp(multiple) >= 0 && had < most {
		word, next = saidNext(next)
		had++
	}
	return new(big.Int).Mod(number(word), number(n)).Uint64(), next, had, api.OK
}

// numbers: those at which something changes, their neighbours, those of one bit and of one bit too few, and some
// without a pattern.
func numbers() []uint64 {
	l := []uint64{0, 1, 2, 3, 5, 6, 7, 9, 10, 100, 65536, 1234567, math.MaxInt64, stride, 1<<64 - stride, 0xbf58476d1ce4e5b9, 0x94d049bb133111eb, greatest}
	for k := range 64 {
		bit := uint64(1) << k
		l = append(l, bit, bit-1, bit+1, -bit, ^bit, 3*bit, 5*bit)
	}
	n := uint64(88172645463325252)
	for range 2000 {
		n ^= n << 13
		n ^= n >> 7
		n ^= n << 17
		l = append(l, n)
	}
	return l
}

// ahead: the state whose word this is.
func ahead(word uint64) uint64 {
	return draw.Unmix(word) - stride
}

func TestP5_1MixOfExamples(t *testing.T) {
	for _, c := range []struct{ z, w uint64 }{
		{0, 0},
		{stride, 16294208416658607535},
		{1234567 + stride, 6457827717110365317},
	} {
		if w := draw.Mix(c.z); w != c.w {
			t.Errorf("Mix(%d) = %d, not %d", c.z, w, c.w)
		}
		if z := draw.Unmix(c.w); z != c.z {
			t.Errorf("Unmix(%d) = %d, not %d", c.w, z, c.z)
		}
	}
}

func TestP5_1MixAsTheWordsSay(t *testing.T) {
	for _, z := range numbers() {
		if w, want := draw.Mix(z), saidMix(z); w != want {
			t.Fatalf("Mix(%d) = %d, not %d", z, w, want)
		}
	}
}

func TestP5_1UnmixIsWhatIsMixedToIt(t *testing.T) {
	for _, w := range numbers() {
		if z := draw.Unmix(w); saidMix(z) != w {
			t.Fatalf("Unmix(%d) = %d, which is mixed to %d", w, z, saidMix(z))
		}
	}
}

func TestP5_1NextOfExamples(t *testing.T) {
	for _, c := range []struct{ state, word, next uint64 }{
		{0, 16294208416658607535, 11400714819323198485},
		{1<<64 - stride, 0, 0},
		{1<<64 - stride + 1, draw.Mix(1), 1},
		{greatest, draw.Mix(stride - 1), stride - 1},
	} {
		if word, next := draw.Next(c.state); word != c.word || next != c.next {
			t.Errorf("Next(%d) = %d, %d, not %d, %d", c.state, word, next, c.word, c.next)
		}
	}
}

func TestP5_1NextAsTheWordsSay(t *testing.T) {
	for _, state := range numbers() {
		word, next := draw.Next(state)
		if wantWord, wantNext := saidNext(state); word != wantWord || next != wantNext {
			t.Fatalf("Next(%d) = %d, %d, not %d, %d", state, word, next, wantWord, wantNext)
		}
	}
}

func TestP5_2WordOfExamples(t *testing.T) {
	for i, want := range []uint64{6457827717110365317, 3203168211198807973, 9817491932198370423, 4593380528125082431, 16408922859458223821} {
		if w, e := draw.Word(1234567, i); w != want || e != api.OK {
			t.Errorf("Word(1234567, %d) = %d, %v, not %d", i, w, e, want)
		}
	}
}

func TestP5_2WordOfPlacesFarOff(t *testing.T) {
	for _, seed := range []uint64{0, 1, 5, 1234567, half - 1, half, greatest} {
		for _, i := range []int{0, 1, 2, math.MaxUint16, math.MaxInt32, math.MaxInt32 + 1, math.MaxUint32, math.MaxUint32 + 1, 1 << 62, math.MaxInt - 1, math.MaxInt} {
			strides := new(big.Int).Mul(number(stride), new(big.Int).Add(big.NewInt(int64(i)), big.NewInt(1)))
			want := saidMix(wrapped(new(big.Int).Add(number(seed), strides)).Uint64())
			if w, e := draw.Word(seed, i); w != want || e != api.OK {
				t.Errorf("Word(%d, %d) = %d, %v, not %d", seed, i, w, e, want)
			}
		}
	}
}

func TestP5_2WordOfWrongPlaces(t *testing.T) {
	for _, seed := range []uint64{0, 5, 1234567, 1<<64 - stride, greatest} {
		for _, i := range []int{-1, -2, -64, math.MinInt32, math.MinInt + 1, math.MinInt} {
			if w, e := draw.Word(seed, i); w != 0 || e != api.ErrArg {
				t.Errorf("Word(%d, %d) = %d, %v", seed, i, w, e)
			}
		}
	}
}

func TestP5_3BelowOfNoNumber(t *testing.T) {
	for _, state := range numbers() {
		if k, next, e := draw.Below(state, 0); k != 0 || next != 0 || e != api.ErrArg {
			t.Fatalf("Below(%d, 0) = %d, %d, %v", state, k, next, e)
		}
	}
}

func TestP5_3BelowOfExamples(t *testing.T) {
	for _, c := range []struct{ state, n, k, next uint64 }{
		{9, 1, 0, 11400714819323198494},
		{0, 1, 0, 11400714819323198485},
		{0, 10, 5, 11400714819323198485},
		{0, half, 16294208416658607535 - half, 11400714819323198485},
		{0, 16294208416658607536, 16294208416658607535, 11400714819323198485},
		{1234567, 100, 17, 1234567 + stride},
	} {
		if k, next, e := draw.Below(c.state, c.n); k != c.k || next != c.next || e != api.OK {
			t.Errorf("Below(%d, %d) = %d, %d, %v, not %d, %d", c.state, c.n, k, next, e, c.k, c.next)
		}
	}
}

func TestP5_3BelowAsThePromiseSays(t *testing.T) {
	for i, n := range numbers() {
		for state := uint64(i); state < uint64(i)+20; state++ {
			k, next, e := draw.Below(state, n)
			if wantK, wantNext, _, want := saidBelow(state, n); k != wantK || next != wantNext || e != want {
				t.Fatalf("Below(%d, %d) = %d, %d, %v, not %d, %d, %v", state, n, k, next, e, wantK, wantNext, want)
			}
		}
	}
}

func TestP5_3BelowOfWordsAtTheGreatestMultiple(t *testing.T) {
	all := new(big.Int).Lsh(big.NewInt(1), 64)
	for _, n := range numbers() {
		if n&(n-1) == 0 {
			continue // 2^64 is a multiple itself
		}
		multiple := new(big.Int).Mul(new(big.Int).Div(all, number(n)), number(n)).Uint64()
		for _, word := range []uint64{0, 1, n - 2, n - 1, multiple - n, multiple - 2, multiple - 1} {
			state := ahead(word)
			if k, next, e := draw.Below(state, n); k != word%n || next != state+stride || e != api.OK {
				t.Fatalf("Below(%d, %d), its word being %d = %d, %d, %v", state, n, word, k, next, e)
			}
		}
		for _, word := range []uint64{multiple, greatest} {
			state := ahead(word)
			k, next, e := draw.Below(state, n)
			if wantK, wantNext, had, _ := saidBelow(state, n); had < 2 || k != wantK || next != wantNext || e != api.OK {
				t.Fatalf("Below(%d, %d), its word being %d = %d, %d, %v, not %d, %d", state, n, word, k, next, e, wantK, wantNext)
			}
		}
	}
}

// The number of which most words are too great is 2^63 + 1; behind these states so many of them stand side by side.
func TestP5_3BelowOfManyWordsTooGreat(t *testing.T) {
	for _, c := range []struct {
		state uint64
		great int
	}{
		{6767727149816162252, 32},
		{11967214816362805015, 34},
		{15768518229769969040, 35},
		{5643655586166776544, 36},
		{966456027618837737, 41},
	} {
		for skip := range c.great + 1 {
			state := c.state + uint64(skip)*stride
			end := c.state + uint64(c.great)*stride
			word, behind := draw.Next(end)
			if k, next, e := draw.Below(state, half+1); k != word || k > half || next != behind || e != api.OK {
				t.Errorf("Below(%d, 2^63 + 1) = %d, %d, %v, not %d, %d", state, k, next, e, word, behind)
			}
		}
	}
}

func TestP5_4EachNumberIsMixedFromJustOne(t *testing.T) {
	check := func(n uint64) {
		if draw.Unmix(draw.Mix(n)) != n || draw.Mix(draw.Unmix(n)) != n {
			t.Fatalf("%d: Unmix of Mix = %d, Mix of Unmix = %d", n, draw.Unmix(draw.Mix(n)), draw.Mix(draw.Unmix(n)))
		}
	}
	for _, n := range numbers() {
		check(n)
	}
	for n := range uint64(100000) {
		check(n)
		check(-n)
		check(n << 32)
		check(n * stride)
	}
}

func TestP5_4WordIsWhatNextTellsBehind(t *testing.T) {
	for _, seed := range []uint64{0, 1, 9, 1234567, half, 1<<64 - stride, greatest} {
		state := seed
		for i := range 3000 {
			var word uint64
			word, state = draw.Next(state)
			if w, e := draw.Word(seed, i); w != word || e != api.OK {
				t.Fatalf("Word(%d, %d) = %d, %v, not %d", seed, i, w, e, word)
			}
		}
	}
}

func TestP5_4OfAPowerOfTwoBelowTakesOneWord(t *testing.T) {
	for k := range 64 {
		n := uint64(1) << k
		states := append(numbers(), ahead(0), ahead(n-1), ahead(n), ahead(half), ahead(greatest-1), ahead(greatest))
		for _, state := range states {
			word, behind := draw.Next(state)
			if k, next, e := draw.Below(state, n); k != word&(n-1) || next != behind || e != api.OK {
				t.Fatalf("Below(%d, %d) = %d, %d, %v", state, n, k, next, e)
			}
		}
	}
}

func TestP5_4WhatBelowTellsIsBelow(t *testing.T) {
	for _, n := range numbers() {
		if n == 0 {
			continue
		}
		state := n
		for range 50 {
			k, next, e := draw.Below(state, n)
			if k >= n || e != api.OK {
				t.Fatalf("Below(%d, %d) = %d, %v", state, n, k, e)
			}
			state = next
		}
	}
}
