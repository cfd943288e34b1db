package simfs_test

import (
	"bytes"
	"fmt"
	"math"
	"slices"
	"strings"
	"testing"

	"stook/api"
	"stook/simfs"
)

func TestP14_1New(t *testing.T) {
	for _, room := range []int{0, 1, 10, 512, mostRoom - 1, mostRoom} {
		newPair(t, room).failsAll()
	}
	for _, room := range []int{-1, mostRoom + 1, math.MinInt, math.MaxInt, math.MinInt32, math.MaxInt32} {
		if f, e := simfs.New(room); f != nil || e != api.ErrArg {
			t.Errorf("New(%d) = %v, %v", room, f, e)
		}
	}
}

func TestP14_1TheExamples(t *testing.T) {
	p := example(t)
	for _, c := range []struct {
		a act
		e api.Errno
	}{
		{appends("a", "1234567"), api.ErrFull},
		{create("a"), api.ErrTwice},
		{create("A"), api.ErrArg},
		{writes("a", 5, "x"), api.ErrArg},
	} {
		p.refused(c.a, c.e)
	}
	p.do(writes("a", 3, "xyz"), cut("a", 5))
	if b, e := p.f.Read("a", 0, 9); string(b) != "abcxy" || e != api.OK {
		t.Errorf("Read = %q, %v", b, e)
	}
}

// Which names there are, byte by byte and by their lengths.
func TestP14_1Names(t *testing.T) {
	const may = "abcdefghijklmnopqrstuvwxyz0123456789.-"
	for c := range 256 {
		// Ahead of all others, behind them, and among them.
		for _, name := range []string{string([]byte{byte(c)}), string([]byte{byte(c), 'a'}), string([]byte{'a', byte(c)}), string([]byte{'a', byte(c), 'b'})} {
			p := newPair(t, 0, create("there"))
			if strings.IndexByte(may, byte(c)) >= 0 {
				p.do(create(name), rename("there", name))
				continue
			}
			p.refused(create(name), api.ErrArg)
			p.refused(rename("there", name), api.ErrArg)
		}
	}
	for n := range 100 {
		p := newPair(t, 0, create("there"))
		if name := strings.Repeat("n", n); n >= 1 && n <= 32 {
			p.do(create(name), rename("there", name), remove(name))
		} else {
			p.refused(create(name), api.ErrArg)
			p.refused(rename("there", name), api.ErrArg)
		}
	}
	p := newPair(t, 0, create("there"), create("."), create(".."), create("-"), create("--"), create("a.b-c"))
	for _, name := range []string{"ä", "a\n", "\na", " a", "a ", "a/b", "a_b", "Aa", "a\x00", "１", strings.Repeat("ä", 16), strings.Repeat("a", 1<<20)} {
		p.refused(create(name), api.ErrArg)
		p.refused(rename("there", name), api.ErrArg)
	}
}

func TestP14_1CreateUpToTheLimit(t *testing.T) {
	p := newPair(t, 100)
	for i := range mostNames {
		p.do(create(fmt.Sprint("n", i)))
	}
	p.refused(create("more"), api.ErrLimit)
	p.refused(create("n0"), api.ErrTwice)
	p.refused(create("More"), api.ErrArg)
	// What is no create makes no name more.
	p.do(rename("n0", "o0"), appends("o0", "a"), rename("o0", "o0"))
	p.refused(create("n0"), api.ErrLimit)
	// A name that is gone counts no more, sure or not.
	p.do(remove("n1"), create("more"))
	p.refused(create("n1"), api.ErrLimit)
	p.do(rename("n2", "n3"), create("n2"), syncDir())
	p.refused(create("n1"), api.ErrLimit)
	p.fails()
	p.fails().refused(create("n1"), api.ErrLimit)
}

func TestP14_1AppendAndWriteUpToTheRoom(t *testing.T) {
	for _, room := range []int{0, 1, 7, 1000} {
		p := newPair(t, room, create("a"), create("b"), appends("a", ""), writes("a", 0, ""))
		p.refused(appends("a", strings.Repeat("x", room+1)), api.ErrFull)
		p.refused(writes("a", 0, strings.Repeat("x", room+1)), api.ErrFull)
		half := strings.Repeat("h", room/2)
		p.do(appends("a", half), writes("b", 0, half))
		rest := room - 2*(room/2)
		p.refused(appends("a", strings.Repeat("x", rest+1)), api.ErrFull)
		p.refused(writes("b", room/2, strings.Repeat("x", rest+1)), api.ErrFull)
		p.refused(writes("b", 0, strings.Repeat("x", room/2+rest+1)), api.ErrFull)
		p.do(writes("a", 0, strings.Repeat("y", room/2+rest)))
		// The disk is full: what doesn't grow is no matter of room.
		p.refused(appends("a", "z"), api.ErrFull)
		p.refused(appends("b", "z"), api.ErrFull)
		p.do(appends("a", ""), appends("b", ""), writes("a", room/2, ""), create("c"), appends("c", ""), writes("c", 0, ""))
		p.do(writes("a", 0, strings.Repeat("w", room/2)), writes("b", 0, strings.Repeat("w", room/2)))
		p.refused(appends("c", "z"), api.ErrFull)
		// What is gone makes room at once, whether it is sure or not.
		p.do(remove("a"), appends("b", strings.Repeat("v", room-room/2)))
		p.refused(appends("b", "z"), api.ErrFull)
		p.do(rename("c", "b"), appends("b", strings.Repeat("u", room)))
		p.refused(appends("b", "z"), api.ErrFull)
		p.do(cut("b", room/2), writes("b", room/2, strings.Repeat("t", room-room/2)))
		p.refused(appends("b", "z"), api.ErrFull)
	}
}

// Bytes of a great file, each at its place.
func TestP14_1AGreatDisk(t *testing.T) {
	c := &chance{1}
	p := newPair(t, mostRoom, create("a"), create("b"))
	p.do(appends("a", c.text(mostRoom/2)), appends("b", c.text(mostRoom/2)))
	p.refused(appends("b", "x"), api.ErrFull)
	p.do(writes("a", 1000, c.text(300000)), cut("a", 400000), appends("a", c.text(mostRoom/2-400000)))
	p.refused(appends("a", "x"), api.ErrFull)
	p.do(writes("b", 0, c.text(mostRoom/2)), syncs("b"), syncDir(), writes("b", 100, c.text(200000)))
	p.fails()
	p.fails(0, 2, 299999)
	p.fails(0, 3, 0, 150000)
}

func TestP14_1WriteAndCutAtEachPlace(t *testing.T) {
	const text = "abcdef"
	for at := -2; at < len(text)+3; at++ {
		for n := range 10 {
			p := newPair(t, 12, create("a"), appends("a", text), create("b"), appends("b", "12"))
			switch {
			case at < 0 || at > len(text):
				p.refused(writes("a", at, strings.Repeat("x", n)), api.ErrArg)
				p.refused(cut("a", at), api.ErrArg)
			case at+n > len(text)+4:
				p.refused(writes("a", at, strings.Repeat("x", n)), api.ErrFull)
			default:
				p.do(writes("a", at, "0123456789"[:n]), cut("a", at), cut("a", at), writes("a", at, "."))
			}
			p.failsAll()
		}
	}
	p := newPair(t, 3, create("a"), appends("a", "abc"))
	for _, at := range []int{math.MinInt, math.MinInt32, -1, 4, math.MaxInt32, math.MaxInt} {
		// A place that may not be, ahead of the room.
		for _, b := range []string{"", "x", "wxyz"} {
			p.refused(writes("a", at, b), api.ErrArg)
		}
		p.refused(cut("a", at), api.ErrArg)
	}
	p.refused(writes("a", 3, "x"), api.ErrFull)
	p.do(writes("a", 3, ""), cut("a", 3), cut("a", 0), cut("a", 0), writes("a", 0, ""))
	p.refused(writes("a", 1, ""), api.ErrArg)
	p.refused(cut("a", 1), api.ErrArg)
}

// What was cut off does not come back when the file grows again.
func TestP14_1GrowsBehindACut(t *testing.T) {
	p := newPair(t, 20, create("a"), appends("a", "abcdefghij"), cut("a", 3), appends("a", "X"), cut("a", 2), writes("a", 1, "YZ"))
	if b, e := p.f.Read("a", 0, 99); string(b) != "aYZ" || e != api.OK {
		t.Errorf("Read = %q, %v", b, e)
	}
	p.failsAll()
	p.do(syncs("a"), syncDir(), appends("a", "12"), cut("a", 4), appends("a", "3"))
	p.failsAll()
}

// No file of that name: of all that is wrong with a call it is that.
func TestP14_1To3OfNoFile(t *testing.T) {
	p := example(t)
	p.do(remove("b"), create("c"), rename("c", "d"))
	for _, name := range []string{"b", "c", "none", "", "A", "a\x00", strings.Repeat("a", 33)} {
		for _, a := range []act{
			appends(name, ""), appends(name, "x"), appends(name, "12345678901"), writes(name, 0, "x"), writes(name, -1, "12345678901"),
			cut(name, 0), cut(name, -1), rename(name, "e"), rename(name, name), rename(name, "A"), rename(name, ""), remove(name), syncs(name),
		} {
			p.refused(a, api.ErrNone)
		}
		if b, e := p.f.Read(name, -1, -1); len(b) != 0 || e != api.ErrNone {
			t.Errorf("Read of %q = %q, %v", name, b, e)
		}
		if n, e := p.f.Size(name); n != 0 || e != api.ErrNone {
			t.Errorf("Size of %q = %d, %v", name, n, e)
		}
	}
}

func TestP14_2Rename(t *testing.T) {
	start := []act{create("a"), appends("a", "ab"), create("b"), appends("b", "c"), syncs("a"), syncs("b"), syncDir(), appends("a", "d"), appends("b", "e")}
	for _, row := range [][]act{
		{rename("a", "c")},
		{rename("a", "b")},
		{rename("b", "a")},
		{rename("a", "a")},
		{rename("a", "a"), rename("b", "b"), syncDir(), rename("a", "a")},
		{rename("a", "c"), rename("b", "a"), rename("c", "b")},
		{rename("a", "b"), rename("b", "a")},
		{rename("a", "b"), create("a"), appends("a", "f"), rename("b", "c"), rename("a", "b"), rename("c", "a")},
		{rename("a", "b"), syncDir(), appends("b", "f"), syncs("b"), create("a")},
		{rename("a", "c"), syncs("c"), appends("c", "f")},
	} {
		p := newPair(t, 20, start...)
		for _, a := range row {
			p.do(a)
			p.failsAll()
		}
	}
	p := newPair(t, 20, start...)
	p.refused(rename("a", "B"), api.ErrArg)
	p.refused(rename("a", ""), api.ErrArg)
	p.refused(rename("c", "B"), api.ErrNone)
	p.refused(rename("c", "c"), api.ErrNone)
}

// To rename a file to its own name is an act: it stands in the row, and the power may fail at it.
func TestP14_2ToItsOwnNameIsAnAct(t *testing.T) {
	p := newPair(t, 9, create("a"), syncDir(), rename("a", "a"), remove("a"))
	if left := p.fails(1); len(left.f.Names()) != 1 {
		t.Errorf("behind the first of two acts: %q", left.f.Names())
	}
	if left := p.fails(2); len(left.f.Names()) != 0 {
		t.Errorf("behind both: %q", left.f.Names())
	}
	p = newPair(t, 9, create("a"))
	p.arm(1)
	p.do(rename("a", "a"))
	p.failsAll()
}

func TestP14_2RemoveAndSync(t *testing.T) {
	start := []act{create("a"), appends("a", "ab"), syncs("a"), syncDir(), writes("a", 1, "cd"), create("b"), appends("b", "e")}
	for _, row := range [][]act{
		{remove("a")},
		{remove("a"), create("a")},
		{remove("a"), create("a"), appends("a", "f"), syncs("a")},
		{syncs("a"), remove("a"), rename("b", "a"), syncs("a")},
		{remove("b"), remove("a"), syncDir(), create("a"), create("b")},
		{syncs("a"), syncs("a"), syncs("b"), syncDir(), syncDir()},
		{syncs("b"), remove("b"), syncDir()},
		{syncDir(), appends("b", "f"), syncs("a"), cut("a", 0), cut("b", 0), syncs("b")},
		{remove("a"), remove("b"), create("b"), create("a"), remove("a"), remove("b")},
	} {
		p := newPair(t, 20, start...)
		for _, a := range row {
			p.do(a)
			p.failsAll()
		}
	}
}

// Sync is of one file alone, and not of the directory, which SyncDir is, and not of files.
func TestP14_2WhatIsSure(t *testing.T) {
	p := newPair(t, 20, create("a"), create("b"), appends("a", "1"), appends("b", "2"))
	if left := p.fails(); len(left.f.Names()) != 0 {
		t.Errorf("nothing is sure: %q", left.f.Names())
	}
	p.do(syncs("a"))
	if left := p.fails(); len(left.f.Names()) != 0 {
		t.Errorf("no name is sure: %q", left.f.Names())
	}
	p.do(syncDir())
	left := p.fails()
	if a, e := left.f.Read("a", 0, 9); string(a) != "1" || e != api.OK {
		t.Errorf("a is sure: %q, %v", a, e)
	}
	if b, e := left.f.Read("b", 0, 9); len(b) != 0 || e != api.OK {
		t.Errorf("b's name alone is sure: %q, %v", b, e)
	}
	p.failsAll()
}

func TestP14_3Read(t *testing.T) {
	const text = "abcdef"
	p := newPair(t, 20, create("a"), appends("a", text), create("empty"))
	for _, n := range []int{-1, 0, 1, 2, 5, 6, 7, 100, math.MaxInt32, math.MaxInt - 6, math.MaxInt - 1, math.MaxInt, math.MinInt} {
		for _, at := range []int{-1, 0, 1, 2, 5, 6, 7, 100, math.MaxInt32, math.MaxInt - 6, math.MaxInt, math.MinInt} {
			want, why := "", api.ErrArg
			if at >= 0 && at <= len(text) && n >= 0 {
				want, why = text[at:], api.OK
				want = want[:min(n, len(want))]
			}
			if b, e := p.f.Read("a", at, n); string(b) != want || e != why {
				t.Errorf("Read(a, %d, %d) = %q, %v, not %q, %v", at, n, b, e, want, why)
			}
			why = api.ErrArg
			if at == 0 && n >= 0 {
				why = api.OK
			}
			if b, e := p.f.Read("empty", at, n); len(b) != 0 || e != why {
				t.Errorf("Read(empty, %d, %d) = %q, %v, not %v", at, n, b, e, why)
			}
		}
	}
	p.look()
}

// Rising: byte by byte, and a beginning ahead of what it begins.
func TestP14_3NamesRise(t *testing.T) {
	rising := []string{"-", "-a", ".", "..", ".a", "0", "00", "1", "10", "2", "9", "9-", "a", "a-", "a-b", "a.b", "a0", "aa", "ab", "b", "z", "zz"}
	c := &chance{2}
	for range 20 {
		p := newPair(t, 0)
		left := slices.Clone(rising)
		for len(left) > 0 {
			i := c.below(len(left))
			p.do(create(left[i]))
			left = slices.Delete(left, i, i+1)
		}
		if !slices.Equal(p.f.Names(), rising) {
			t.Errorf("Names = %q", p.f.Names())
		}
		if behind := p.fails(len(rising)); !slices.Equal(behind.f.Names(), rising) {
			t.Errorf("Names behind a failure = %q", behind.f.Names())
		}
	}
}

// Files count in Used as long as the directory has them, and once, whatever their names were.
func TestP14_3Used(t *testing.T) {
	p := newPair(t, 10, create("a"), create("b"))
	for i, c := range []struct {
		a    act
		used int
	}{
		{appends("a", "1234"), 4}, {appends("b", "12"), 6}, {writes("a", 0, "99"), 6}, {writes("a", 3, "12"), 7}, {cut("a", 1), 3},
		{rename("a", "c"), 3}, {rename("c", "c"), 3}, {syncs("b"), 3}, {syncDir(), 3}, {rename("c", "b"), 1}, {create("d"), 1}, {remove("b"), 0},
	} {
		p.do(c.a)
		if p.f.Used() != c.used || p.f.Room() != 10 {
			t.Errorf("%d: Used = %d, Room = %d", i, p.f.Used(), p.f.Room())
		}
	}
}

// What is handed in stays as it is, and is nobody else's; what is answered is new.
func TestP14_1To5NothingIsShared(t *testing.T) {
	p := newPair(t, 100, create("a"), create("b"))
	given := []byte("abcdef......")
	for _, write := range []func(b []byte) api.Errno{
		func(b []byte) api.Errno { return p.f.Append("a", b) },
		func(b []byte) api.Errno { return p.f.Write("a", 0, b) },
		func(b []byte) api.Errno { return p.f.Write("a", 6, b) },
		func(b []byte) api.Errno { return p.f.Append("b", b) },
	} {
		b := bytes.Clone(given)
		if e := write(b[:6]); e != api.OK {
			t.Fatalf("refused: %v", e)
		}
		if !bytes.Equal(b, given) {
			t.Errorf("what was handed in is %q now", b)
		}
		for i := range b {
			b[i] = '#'
		}
	}
	for range 2 {
		got, _ := p.f.Read("a", 0, 99)
		if string(got) != "abcdefabcdef" {
			t.Errorf("a is %q", got)
		}
		for i := range got[:cap(got)] {
			got[:cap(got)][i] = '#'
		}
		names := p.f.Names()
		for i := range names {
			names[i] = "#"
		}
	}
	if !slices.Equal(p.f.Names(), []string{"a", "b"}) {
		t.Errorf("Names = %q", p.f.Names())
	}
	left, _ := p.f.Fail([]int{2, 3, 1})
	if b, _ := left.Read("a", 0, 99); string(b) != "abcdefabcdef" {
		t.Errorf("a's row is %q", b)
	}
	if b, _ := left.Read("b", 0, 99); string(b) != "abcdef" {
		t.Errorf("b's row is %q", b)
	}
	// Nor has Sync laid the one that is sure and the one that is now into one another.
	p.f.Sync("a")
	p.f.SyncDir()
	p.f.Write("a", 0, []byte("XYZ"))
	left, _ = p.f.Fail(nil)
	if b, _ := left.Read("a", 0, 99); string(b) != "abcdefabcdef" {
		t.Errorf("a was synced as %q", b)
	}
}

// Neither nil nor a zero object is a disk.
func TestP14_1To5OfNoDisk(t *testing.T) {
	for name, f := range map[string]*simfs.FS{"nil": nil, "zero": {}, "new": new(simfs.FS)} {
		for range 2 {
			for _, a := range []act{
				create("a"), create(""), appends("a", "x"), appends("a", ""), writes("a", -1, "x"), cut("a", -1), rename("a", "A"),
				remove("a"), syncs("a"), syncDir(),
			} {
				if e := a.do(f); e != api.ErrNil {
					t.Errorf("%s: %v = %v", name, a, e)
				}
			}
			if b, e := f.Read("a", -1, -1); len(b) != 0 || e != api.ErrNil {
				t.Errorf("%s: Read = %q, %v", name, b, e)
			}
			if n, e := f.Size("a"); n != 0 || e != api.ErrNil {
				t.Errorf("%s: Size = %d, %v", name, n, e)
			}
			for _, n := range []int{-1, 0, 1} {
				if e := f.Arm(n); e != api.ErrNil {
					t.Errorf("%s: Arm(%d) = %v", name, n, e)
				}
			}
			if len(f.Names()) != 0 || f.Used() != 0 || f.Room() != 0 || f.Acts() != 0 || f.Dead() {
				t.Errorf("%s: %q, %d, %d, %d, %t", name, f.Names(), f.Used(), f.Room(), f.Acts(), f.Dead())
			}
			if left, e := f.Fail([]int{1}); left != nil || e != api.ErrNil {
				t.Errorf("%s: Fail = %v, %v", name, left, e)
			}
			if f.Copy() != nil {
				t.Errorf("%s: Copy is a disk", name)
			}
		}
	}
}
