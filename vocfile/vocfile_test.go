package vocfile_test

import (
	"bytes"
	"encoding/hex"
	"fmt"
	"math/bits"
	"slices"
	"strings"
	"testing"

	"stook/api"
	"stook/vocfile"
)

// put: the vocabulary's file, which must be there.
func put(t *testing.T, v api.Vocab) []byte {
	t.Helper()
	b, e := vocfile.Put(v)
	if e != api.OK {
		t.Fatalf("Put of %d pieces: %v", len(v.Pieces), e)
	}
	return b
}

// refused: that Get answers this error at this place, and nothing beside.
func refused(t *testing.T, what string, b []byte, at int, e api.Errno) {
	t.Helper()
	if v, place, got := vocfile.Get(b); len(v.Pieces) != 0 || place != at || got != e {
		t.Errorf("%s: Get = %d pieces, %d, %v, not %d, %v", what, len(v.Pieces), place, got, at, e)
	}
}

// asSaid: that Get answers what the words say, and, where that is a vocabulary, that Put of it are the bytes.
func asSaid(t *testing.T, what string, b []byte) api.Errno {
	t.Helper()
	v, at, e := vocfile.Get(b)
	if wv, wat, we := saidGet(b); !slices.Equal(v.Pieces, wv.Pieces) || at != wat || e != we {
		t.Errorf("%s: Get(%x) = %d pieces, %d, %v, not %d pieces, %d, %v", what, b, len(v.Pieces), at, e, len(wv.Pieces), wat, we)
	}
	if e == api.OK && !bytes.Equal(put(t, v), b) {
		t.Errorf("%s: Put of Get(%x) are other bytes", what, b)
	}
	return e
}

// golden: files, told byte by byte, and the numbers of their vocabularies.
func golden() []struct {
	v         api.Vocab
	head, end string
	id        uint64
} {
	return []struct {
		v         api.Vocab
		head, end string
		id        uint64
	}{
		{with(), "73746f6f6b768002", "34aa9a17", 0xff8d3da5463f0962},
		{with(join(97, 98, 5), join(256, 99, 2)), "73746f6f6b768202", "01616205" + "0180026302" + "bc5c4cce", 0xadd2c8c1273e01c5},
		{with(join(97, 98, 1<<32-1)), "73746f6f6b768102", "016162ffffffff0f" + "9e8eda58", 0x3978d690e141934e},
	}
}

// bytesAsHex: what stands of the bytes, rising, in a file.
func bytesAsHex() string {
	var s strings.Builder
	for c := range 256 {
		fmt.Fprintf(&s, "00%02x", c)
	}
	return s.String()
}

func TestP9_1FilesByteByByte(t *testing.T) {
	for i, c := range golden() {
		b, e := vocfile.Put(c.v)
		if want := c.head + bytesAsHex() + c.end; hex.EncodeToString(b) != want || e != api.OK {
			t.Errorf("%d: Put = %x, %v, not %s", i, b, e, want)
		}
		if id, e := vocfile.Id(c.v); id != c.id || e != api.OK {
			t.Errorf("%d: Id = %x, %v, not %x", i, id, e, c.id)
		}
	}
	b := put(t, with())
	if len(b) != 524 || !bytes.Equal(b[6:12], []byte{0x80, 2, 0, 0, 0, 1}) {
		t.Errorf("Put(Plain) has %d bytes: %x", len(b), b)
	}
}

func TestP9_1PutAndIdAsTheWordsSay(t *testing.T) {
	ids := map[uint64]string{}
	for name, v := range right() {
		want, _ := saidPut(v)
		if b, e := vocfile.Put(v); !bytes.Equal(b, want) || e != api.OK {
			t.Errorf("%s: Put = %x, %v, not %x", name, b, e, want)
		}
		id, e := vocfile.Id(v)
		if id != saidId(want) || e != api.OK {
			t.Errorf("%s: Id = %x, %v, not %x", name, id, e, saidId(want))
		}
		if other, there := ids[id]; there {
			t.Errorf("%s has the number of %s", name, other)
		}
		ids[id] = name
	}
}

func TestP9_1OfWhatMayNotBe(t *testing.T) {
	for _, c := range wrong() {
		if b, e := vocfile.Put(c.v); len(b) != 0 || e != api.ErrVocab {
			t.Errorf("%s: Put = %x, %v", c.what, b, e)
		}
		if id, e := vocfile.Id(c.v); id != 0 || e != api.ErrVocab {
			t.Errorf("%s: Id = %x, %v", c.what, id, e)
		}
	}
	if b, e := vocfile.Put(api.Vocab{}); len(b) != 0 || e != api.ErrVocab {
		t.Errorf("Put of none = %x, %v", b, e)
	}
}

func TestP9_2Examples(t *testing.T) {
	refused(t, "none", nil, 0, api.ErrForm)
	refused(t, "stookv", bare(), 6, api.ErrShort)
	refused(t, "stookv 80", bare(0x80), 6, api.ErrShort)
	refused(t, "stookv 01 02", bare(1, 2), 7, api.ErrForm)
	refused(t, "stookv 00 and four bytes 0", bare(0, 0, 0, 0, 0), 7, api.ErrSum)
	refused(t, "stookv 00 and its sum", bare(0, 0xd9, 0x61, 0x62, 0xd1), 7, api.ErrVocab)
	refused(t, "Plain and a byte", append(put(t, with()), 7), 524, api.ErrForm)
	v, at, e := vocfile.Get(put(t, with()))
	if !slices.Equal(v.Pieces, with().Pieces) || at != 0 || e != api.OK {
		t.Errorf("Get of Plain = %d pieces, %d, %v", len(v.Pieces), at, e)
	}
}

// The first of the errors is the bytes', ahead of how many they are.
func TestP9_2TheSixBytes(t *testing.T) {
	plain := put(t, with())
	for cut := range 6 {
		refused(t, "a beginning of the six", bare()[:cut], 0, api.ErrForm)
		for _, change := range []byte{1, 0x20, 0xff} {
			b := bytes.Clone(plain)
			b[cut] ^= change
			refused(t, "another byte", b, 0, api.ErrForm)
			refused(t, "another byte, summed", saidSummed(b[:520]), 0, api.ErrForm)
		}
	}
	refused(t, "STOOKV", bytes.ToUpper(bare(0)), 0, api.ErrForm)
	refused(t, "a byte ahead", append([]byte{0}, plain...), 0, api.ErrForm)
	refused(t, "without the first", plain[1:], 0, api.ErrForm)
}

// refusals: rows that are no number of at most 4095 (4096), with why, however they go on. Each has ten bytes at most.
func refusals(most int) map[string]api.Errno {
	m := map[string]api.Errno{
		"\x80\x00":     api.ErrForm,
		"\x85\x00":     api.ErrForm,
		"\x80\x80\x00": api.ErrForm,
		"\xff\xff\xff\xff\xff\xff\xff\xff\xff\x02": api.ErrForm,
		"\xff\xff\xff\xff\xff\xff\xff\xff\xff\x80": api.ErrForm,
		"\x80\x80\x80\x80\x80\x80\x80\x80\x80\x00": api.ErrForm,
		"\xff\xff\xff\xff\xff\xff\xff\xff\xff\x01": api.ErrLimit,
		"\x80\x80\x80\x80\x80\x80\x80\x80\x80\x01": api.ErrLimit,
		"\x80\x80\x80\x80\x10":                     api.ErrLimit, // 2^32
		"\xff\xff\xff\xff\x1f":                     api.ErrLimit,
		"\x85\x80\x80\x80\x10":                     api.ErrLimit, // 5, but for its bits above 31
		"\x85\x80\x80\x80\x80\x80\x80\x80\x80\x01": api.ErrLimit, // 5, but for its highest bit
	}
	if most < 1<<32-1 {
		m["\x81\x20"] = api.ErrLimit // 4097
		m["\xff\x7f"] = api.ErrLimit
		m["\xff\xff\xff\xff\x0f"] = api.ErrLimit
		m["\x80\x80\x04"] = api.ErrLimit // 65536
		if most < 4096 {
			m["\x80\x20"] = api.ErrLimit
		}
	}
	return m
}

// numbersRefused: that behind these bytes, where a number of at most so much should be, all that is none is refused there.
func numbersRefused(t *testing.T, ahead []byte, most int) {
	t.Helper()
	at := len(ahead)
	for row, e := range refusals(most) {
		what := fmt.Sprintf("%x, and the number %x", ahead, row)
		refused(t, what, append(bytes.Clone(ahead), row...), at, e)
		refused(t, what+" and more", append(append(bytes.Clone(ahead), row...), make([]byte, 9000)...), at, e)
		// Where it is cut, it ends too early, where the number begins, not at the length of all.
		for cut := range row {
			refused(t, what+" cut", append(bytes.Clone(ahead), row[:cut]...), at, api.ErrShort)
		}
	}
}

func TestP9_2HowManyPieces(t *testing.T) {
	numbersRefused(t, bare(), 4096)
	refused(t, "4096 pieces, none of which is there", bare(0x80, 0x20), 8, api.ErrShort)
	refused(t, "4097 pieces, none of which is there", bare(0x81, 0x20), 6, api.ErrLimit)
	many, _ := saidPut(with(pairs(3841)...))
	refused(t, "4097 pieces", many, 6, api.ErrLimit)
	most, _ := saidPut(with(pairs(3840)...))
	if v, at, e := vocfile.Get(most); len(v.Pieces) != 4096 || at != 0 || e != api.OK {
		t.Errorf("Get of 4096 pieces = %d, %d, %v", len(v.Pieces), at, e)
	}
}

func TestP9_2Pieces(t *testing.T) {
	for _, ahead := range [][]byte{
		bare(1),
		bare(0x80, 0x20),
		bare(9, 0, 97, 1, 0xff, 0x1f, 0xff, 0x1f, 0xff, 0xff, 0xff, 0xff, 0x0f), // what is no vocabulary's is asked later
		bare(9, 0, 0, 0, 0, 0, 0),
	} {
		at := len(ahead)
		refused(t, "no byte", ahead, at, api.ErrShort)
		for c := 2; c < 256; c++ {
			refused(t, "neither 0 nor 1", append(bytes.Clone(ahead), byte(c)), at, api.ErrForm)
			refused(t, "neither 0 nor 1, and more", append(bytes.Clone(ahead), byte(c), 0, 0, 0, 0, 0), at, api.ErrForm)
		}
		refused(t, "no byte behind 0", append(bytes.Clone(ahead), 0), at+1, api.ErrShort)
		begin := append(bytes.Clone(ahead), 1)
		for _, left := range []string{"\x00", "\x7f", "\x80\x01", "\xff\x1f"} {
			behind := append(bytes.Clone(begin), left...)
			numbersRefused(t, behind, 4095)
			for _, right := range []string{"\x00", "\xff\x1f"} {
				numbersRefused(t, append(bytes.Clone(behind), right...), 1<<32-1)
			}
		}
		numbersRefused(t, begin, 4095)
	}
}

// Of two numbers that are refused the first one tells.
func TestP9_2TheFirstNumberTells(t *testing.T) {
	refused(t, "Left above, Right in another form", bare(1, 1, 0x80, 0x20, 0x80, 0), 8, api.ErrLimit)
	refused(t, "Left in another form, Right above", bare(1, 1, 0x80, 0, 0x80, 0x20), 8, api.ErrForm)
	refused(t, "Left above, nothing behind", bare(1, 1, 0x80, 0x20), 8, api.ErrLimit)
	refused(t, "Right above, nothing behind", bare(1, 1, 0, 0x80, 0x20), 9, api.ErrLimit)
	refused(t, "Rank above, nothing behind", bare(1, 1, 0, 0, 0x80, 0x80, 0x80, 0x80, 0x10), 10, api.ErrLimit)
	refused(t, "a number ahead of a piece's kind", bare(2, 1, 0x80, 0x20, 0, 0, 7), 8, api.ErrLimit)
	refused(t, "a piece's kind ahead of a number", bare(2, 7, 1, 0x80, 0x20), 7, api.ErrForm)
}

func TestP9_2TheSum(t *testing.T) {
	for name, v := range right() {
		whole, places := saidPut(v)
		at := places[len(v.Pieces)]
		for left := range 4 {
			refused(t, name+", cut in its sum", whole[:at+left], at+left, api.ErrShort)
			// Bytes that are too few are too few, whatever they are.
			near := bytes.Clone(whole[:at+left])
			for i := at; i < len(near); i++ {
				near[i] ^= 0xff
			}
			refused(t, name+", cut in another sum", near, at+left, api.ErrShort)
		}
		for i := at; i < len(whole); i++ {
			for bit := range 8 {
				near := bytes.Clone(whole)
				near[i] ^= 1 << bit
				refused(t, name+", another sum", near, at, api.ErrSum)
				refused(t, name+", another sum and more", append(near, 0), at, api.ErrSum)
			}
		}
		turned := bytes.Clone(whole)
		slices.Reverse(turned[at:])
		refused(t, name+", the sum turned round", turned, at, api.ErrSum)
		for _, behind := range [][]byte{{0}, {0xff, 0xff}, whole, make([]byte, 5000)} {
			refused(t, name+" and more", slices.Concat(whole, behind), len(whole), api.ErrForm)
		}
		// The sum is that of the whole, not of what stands ahead of it for a while.
		twice := saidSummed(whole)
		refused(t, name+", summed twice", twice, len(whole), api.ErrForm)
	}
}

func TestP9_2WhatMayNotBe(t *testing.T) {
	for _, c := range wrong() {
		if c.noFile {
			continue
		}
		whole, places := saidPut(c.v)
		at := places[len(c.v.Pieces)]
		refused(t, c.what, whole, places[c.piece], api.ErrVocab)
		// What the bytes are comes ahead of what the vocabulary is.
		refused(t, c.what+" and more", append(bytes.Clone(whole), 0), len(whole), api.ErrForm)
		refused(t, c.what+", cut", whole[:len(whole)-1], len(whole)-1, api.ErrShort)
		near := bytes.Clone(whole)
		near[at] ^= 1
		refused(t, c.what+", another sum", near, at, api.ErrSum)
		refused(t, c.what+", another sum and more", append(near, 0), at, api.ErrSum)
	}
}

// Each byte is changed, to what tells something at many places, taken out, and put twice, and the sum made good.
func TestP9_2AsTheWordsSayOfOneChange(t *testing.T) {
	met := map[api.Errno]int{}
	for _, v := range []api.Vocab{with(join(97, 98, 5), join(256, 99, 200)), grown(7, 12)} {
		whole := put(t, v)
		ahead := whole[:len(whole)-4]
		for at := range ahead {
			for _, c := range []byte{0, 1, 2, 0x1f, 0x20, 97, 0x7f, 0x80, 0x81, 0xff, ahead[at] ^ 1, ahead[at] + 1} {
				b := bytes.Clone(ahead)
				b[at] = c
				met[asSaid(t, "changed", saidSummed(b))]++
			}
			met[asSaid(t, "without a byte", saidSummed(slices.Delete(bytes.Clone(ahead), at, at+1)))]++
			met[asSaid(t, "a byte twice", saidSummed(slices.Insert(bytes.Clone(ahead), at, ahead[at])))]++
			met[asSaid(t, "cut and summed", saidSummed(ahead[:at]))]++
			met[asSaid(t, "without a byte, of another sum", slices.Delete(bytes.Clone(whole), at, at+1))]++
		}
	}
	for _, e := range []api.Errno{api.OK, api.ErrLimit, api.ErrShort, api.ErrForm, api.ErrSum, api.ErrVocab} {
		if met[e] < 3 {
			t.Errorf("only %d changes are %v", met[e], e)
		}
	}
}

// All rows of a few bytes behind the six, with and without their sum.
func TestP9_2AsTheWordsSayOfFewBytes(t *testing.T) {
	kinds := []byte{0, 1, 2, 3, 0x1f, 0x20, 0x80, 0xff}
	rows := [][]byte{nil}
	for range 6 {
		var longer [][]byte
		for _, row := range rows {
			asSaid(t, "few bytes", bare(row...))
			asSaid(t, "few bytes and their sum", saidSummed(bare(row...)))
			if len(row) == 5 {
				continue
			}
			for _, c := range kinds {
				longer = append(longer, append(bytes.Clone(row), c))
			}
		}
		rows = longer
	}
}

func TestP9_3WhatIsPutIsGot(t *testing.T) {
	for name, v := range right() {
		b := put(t, v)
		w, at, e := vocfile.Get(b)
		if !slices.Equal(w.Pieces, v.Pieces) || at != 0 || e != api.OK {
			t.Fatalf("%s: Get of Put = %d pieces, %d, %v", name, len(w.Pieces), at, e)
		}
		if again := put(t, w); !bytes.Equal(again, b) {
			t.Errorf("%s: Put of Get of Put are other bytes", name)
		}
	}
}

func TestP9_3NoBeginningIsAFile(t *testing.T) {
	for name, v := range right() {
		whole := put(t, v)
		step := 1 + len(whole)/3000
		for cut := 0; cut < len(whole); cut += step {
			// The room behind the end does not count, and neither does what fits into it.
			for _, b := range [][]byte{whole[:cut], bytes.Clone(whole[:cut])} {
				w, at, e := vocfile.Get(b)
				want := api.ErrShort
				if cut < 6 {
					want = api.ErrForm
				}
				if len(w.Pieces) != 0 || at > cut || e != want {
					t.Fatalf("%s, cut at %d: Get = %d pieces, %d, %v", name, cut, len(w.Pieces), at, e)
				}
			}
		}
	}
}

func TestP9_3NoFileWithAByteChanged(t *testing.T) {
	for name, v := range map[string]api.Vocab{
		"example": with(join(97, 98, 5), join(256, 99, 1<<32-1)),
		"grown":   grown(3, 20),
	} {
		whole := put(t, v)
		for at := range whole {
			for change := 1; change < 256; change++ {
				if at >= 20 && at < 500 && bits.OnesCount(uint(change)) > 1 { // there stand bytes, one as the other
					continue
				}
				near := bytes.Clone(whole)
				near[at] ^= byte(change)
				if w, _, e := vocfile.Get(near); e == api.OK || len(w.Pieces) != 0 {
					t.Fatalf("%s, with byte %d changed by %x, is a file", name, at, change)
				}
			}
		}
	}
}

// The number hangs on all of the vocabulary: on the order of its pieces and on each of their fields.
func TestP9_3AnotherVocabularyHasAnotherFile(t *testing.T) {
	v := with(join(97, 98, 5), join(256, 99, 2))
	for i, w := range []api.Vocab{
		with(join(97, 98, 5)),
		with(join(97, 98, 6), join(256, 99, 2)),
		with(join(97, 98, 2), join(256, 99, 5)),
		with(join(98, 97, 5), join(256, 99, 2)),
		with(join(97, 98, 5), join(99, 256, 2)),
		with(join(97, 98, 5), join(256, 99, 2), join(0, 0, 0)),
		of(slices.Insert(with(join(97, 98, 5)).Pieces[1:], 255, api.Piece{})...),
	} {
		one, e := vocfile.Id(v)
		other, f := vocfile.Id(w)
		if e != api.OK || f != api.OK || one == other || bytes.Equal(put(t, v), put(t, w)) {
			t.Errorf("%d: Id = %x, %v and %x, %v", i, one, e, other, f)
		}
	}
}

func TestMemoryOfAnswersIsNew(t *testing.T) {
	v := with(join(97, 98, 5), join(256, 99, 2))
	want, _ := saidPut(v)
	first, second := put(t, v), put(t, v)
	first = first[:cap(first)]
	for i := range first {
		first[i] ^= 0xff
	}
	if !bytes.Equal(second, want) || !bytes.Equal(put(t, v), want) {
		t.Error("two answers of Put share memory")
	}
	one, _, _ := vocfile.Get(second)
	other, _, _ := vocfile.Get(second)
	clear(second[:cap(second)])
	all := one.Pieces[:cap(one.Pieces)]
	for i := range all {
		all[i] = join(-1, i, 7)
	}
	if !slices.Equal(other.Pieces, v.Pieces) {
		t.Error("answers of Get share memory")
	}
}

func TestMemoryOfArgumentsStays(t *testing.T) {
	tail := []api.Piece{join(-7, -7, 7), {Byte: 7, Rank: 7}}
	for name, v := range map[string]api.Vocab{"right": grown(9, 30), "wrong": with(join(97, 98, 5), join(1, 2, 5))} {
		want := append(slices.Clone(v.Pieces), tail...)
		l := slices.Clone(want)
		v.Pieces = l[:len(v.Pieces)]
		vocfile.Put(v)
		vocfile.Id(v)
		if !slices.Equal(l, want) {
			t.Errorf("%s: what was handed in is another one now", name)
		}
	}
	was := put(t, grown(9, 30))
	b := bytes.Clone(was)
	for cut := range len(b) + 1 {
		vocfile.Get(b[:cut])
	}
	if !bytes.Equal(b, was) {
		t.Error("bytes that were handed in, or the room behind their end, are others now")
	}
}
