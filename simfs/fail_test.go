package simfs_test

import (
	"fmt"
	"math"
	"slices"
	"strings"
	"testing"

	"stook/api"
)

// kinds: an act of each kind, and more than one of some, that the disk of the examples does not refuse.
func kinds() []act {
	return []act{
		create("c"), appends("a", "e"), appends("a", ""), writes("a", 1, "xyzw"), writes("a", 1, ""), cut("a", 1), cut("a", 4),
		rename("a", "b"), rename("a", "a"), rename("b", "c"), remove("a"), remove("b"), syncs("a"), syncs("b"), syncDir(),
	}
}

// refusals: calls that the disk of the examples refuses.
func refusals() []act {
	return []act{
		create("a"), create("A"), appends("a", "1234567"), appends("c", ""), writes("a", 5, "x"), writes("a", 4, "1234567"), cut("a", 5),
		rename("c", "d"), rename("a", "A"), remove("c"), syncs("c"),
	}
}

func TestP14_4ThePowerFailsAtEachKind(t *testing.T) {
	for _, a := range kinds() {
		for _, row := range [][]act{nil, {syncs("a"), syncDir()}, {writes("a", 0, "12")}} {
			p := example(t)
			p.do(row...)
			p.arm(1)
			p.do(a)
			if !p.f.Dead() {
				t.Errorf("%s: it lives", p.what)
			}
			p.failsAll()
			// And from then on nothing is done.
			p.do(append(kinds(), refusals()...)...)
			p.do(create(""), appends("a", strings.Repeat("x", 99)))
			p.failsAll()
		}
	}
}

// A Sync at which the power fails does nothing: no byte more is sure.
func TestP14_4AtASync(t *testing.T) {
	p := example(t)
	p.arm(1)
	p.do(syncs("a"))
	if b, _ := p.fails().f.Read("a", 0, 9); string(b) != "ab" {
		t.Errorf("Sync: %q is sure", b)
	}
	if b, _ := p.fails(1, 1).f.Read("a", 0, 9); string(b) != "abcd" {
		t.Errorf("Sync: %q may be there", b)
	}
	p = example(t)
	p.arm(1)
	p.do(syncDir())
	if names := p.fails().f.Names(); !slices.Equal(names, []string{"a"}) {
		t.Errorf("SyncDir: %q are sure", names)
	}
	if names := p.fails(1).f.Names(); !slices.Equal(names, []string{"a", "b"}) {
		t.Errorf("SyncDir: %q may be there", names)
	}
}

func TestP14_4OfADeadDisk(t *testing.T) {
	p := example(t)
	acts := p.f.Acts()
	p.arm(1)
	p.do(appends("a", "e"))
	f := p.f
	for range 2 {
		for _, a := range append(kinds(), refusals()...) {
			if e := a.do(f); e != api.ErrDead {
				t.Errorf("%v = %v", a, e)
			}
		}
		for _, n := range []int{0, 1, -1, math.MaxInt, math.MinInt} {
			if e := f.Arm(n); e != api.ErrDead {
				t.Errorf("Arm(%d) = %v", n, e)
			}
		}
		for _, name := range []string{"a", "c", "A", ""} {
			if b, e := f.Read(name, -1, -1); len(b) != 0 || e != api.ErrDead {
				t.Errorf("Read(%q) = %q, %v", name, b, e)
			}
			if n, e := f.Size(name); n != 0 || e != api.ErrDead {
				t.Errorf("Size(%q) = %d, %v", name, n, e)
			}
		}
		if len(f.Names()) != 0 || f.Used() != 0 || f.Room() != 0 || !f.Dead() || f.Acts() != acts+1 {
			t.Errorf("%q, %d, %d, %t, %d", f.Names(), f.Used(), f.Room(), f.Dead(), f.Acts())
		}
	}
	if b, _ := p.fails(0, 2).f.Read("a", 0, 9); string(b) != "abcde" {
		t.Errorf("what was done is %q", b)
	}
}

// It fails at the n-th act, whatever kind that is, and whatever is refused or asked between.
func TestP14_4AtTheNthAct(t *testing.T) {
	row := []act{
		appends("a", "e"), syncs("a"), create("c"), rename("c", "d"), rename("d", "d"), syncDir(), writes("a", 0, ""), cut("a", 2), remove("d"),
		appends("a", ""), syncDir(), syncDir(), syncs("b"),
	}
	never := []act{
		create("A"), create("a"), appends("none", ""), appends("a", "12345678901"), writes("none", 0, ""), writes("a", -1, ""), cut("a", -1),
		rename("none", "e"), rename("a", "A"), remove("none"), syncs("none"),
	}
	for n := 1; n <= len(row)+2; n++ {
		p := example(t)
		p.arm(n)
		for i, a := range row {
			if p.f.Dead() != (i >= n) {
				t.Fatalf("Arm(%d), %d acts: Dead = %t", n, i, p.f.Dead())
			}
			p.do(never...)
			p.fails()
			p.copied()
			p.do(a)
		}
		p.failsAll()
	}
	for _, n := range []int{0, math.MaxInt, math.MaxInt32} {
		p := example(t)
		p.arm(n)
		p.do(row...)
		if p.f.Dead() || p.f.Acts() != 6+len(row) {
			t.Errorf("Arm(%d): Dead = %t, Acts = %d", n, p.f.Dead(), p.f.Acts())
		}
	}
}

func TestP14_4WhatWasSaidAhead(t *testing.T) {
	wait := appends("a", "")
	for _, c := range []struct {
		first, between, then int
	}{{1, 0, 0}, {1, 0, 1}, {1, 0, 2}, {3, 2, 0}, {3, 2, 1}, {3, 2, 3}, {3, 1, 5}, {0, 2, 2}, {5, 2, 3}, {5, 2, 2}} {
		p := example(t)
		p.arm(c.first)
		for range c.between {
			p.do(wait)
		}
		p.arm(c.then)
		for i := range 8 {
			if p.f.Dead() != (c.then > 0 && i >= c.then) {
				t.Fatalf("%v, %d acts: Dead = %t", c, i, p.f.Dead())
			}
			p.do(wait)
		}
	}
	// What may not be said is not said.
	for _, n := range []int{-1, -2, math.MinInt, math.MinInt32} {
		p := example(t)
		p.arm(2)
		if e := p.f.Arm(n); e != api.ErrArg {
			t.Errorf("Arm(%d) = %v", n, e)
		}
		p.do(wait, wait, wait)
		p = example(t)
		if e := p.f.Arm(n); e != api.ErrArg {
			t.Errorf("Arm(%d) = %v", n, e)
		}
		p.do(wait, wait, wait)
	}
}

func TestP14_5TheExamples(t *testing.T) {
	p := example(t)
	for _, c := range []struct {
		cuts  []int
		names []string
		a     string
	}{
		{nil, []string{"a"}, "ab"},
		{[]int{1, 1}, []string{"a", "b"}, "abcd"},
		{[]int{0, 0, 1}, []string{"a"}, "abc"},
	} {
		left := p.fails(c.cuts...)
		if b, e := left.f.Read("a", 0, 9); string(b) != c.a || e != api.OK || !slices.Equal(left.f.Names(), c.names) {
			t.Errorf("Fail(%d): %q, %q, %v", c.cuts, left.f.Names(), b, e)
		}
	}
	p.arm(1)
	p.do(appends("a", "e"))
	if b, e := p.fails(0, 9).f.Read("a", 0, 9); string(b) != "ab" || e != api.OK {
		t.Errorf("Fail(0, 9): %q, %v", b, e)
	}
}

// Which number is taken of how many, and when one is: all are wrapped, as unsigned ones of 64 bits.
func TestP14_5TheNumbers(t *testing.T) {
	p := newPair(t, 50, create("a"), appends("a", "ab"), syncs("a"), syncDir(), appends("a", "cdefg"), writes("a", 1, "xyz"), cut("a", 4), create("b"), create("c"))
	for _, n := range []int{-1, -2, -3, -4, -5, 3, 4, 5, 6, 7, 8, 100, math.MaxInt, math.MaxInt - 1, math.MinInt, math.MinInt + 1, math.MaxInt32, math.MinInt32} {
		p.fails(n)
		p.fails(0, n)
		p.fails(0, 0, n)
		p.fails(0, 1, n)
		p.fails(0, 2, n)
		p.fails(n, n, n, n, n)
	}
	// 2^64 - 1 is 0 of 3, and 3 of 4.
	if left := p.fails(-1); len(left.f.Names()) != 1 {
		t.Errorf("-1 of 3: %q", left.f.Names())
	}
	if b, _ := p.fails(0, -1).f.Read("a", 0, 99); string(b) != "axyz" {
		t.Errorf("-1 of 4: %q", b)
	}
	if b, _ := p.fails(0, 0, math.MinInt).f.Read("a", 0, 99); string(b) != "abcd" {
		t.Errorf("2^63, which is 2 of 6: %q", b)
	}
	p.failsAll()
}

// Files go by rising names, each with as many numbers as it takes: one with nothing to begin takes one alone.
func TestP14_5WhoTakesWhich(t *testing.T) {
	start := []act{create("b"), create("a"), create("d"), create("c"), create("e"), syncDir()}
	p := newPair(t, 100, start...)
	// One with a row that is done in part, one whose next act cuts, one whose next act has no bytes, one without a row.
	p.do(appends("a", "12"), appends("b", "34"), syncs("b"), cut("b", 1), appends("c", ""), appends("c", "56"), writes("d", 0, "78"), writes("d", 0, "9"))
	if n := p.failsAll(); n != 4*2*5*6 {
		t.Errorf("there are %d rows of numbers", n)
	}
	for _, c := range []struct {
		cuts []int
		want string
	}{
		{nil, ",34,,,"},
		{[]int{0, 0, 1}, "1,34,,,"},
		{[]int{0, 1, 0}, "12,34,,,"},
		{[]int{0, 1, 1}, "12,3,,,"},
		{[]int{0, 0, 0, 1, 2, 0, 1}, ",3,56,7,"},   // behind c's second act there is none to begin: 0 and 1 are d's
		{[]int{0, 0, 0, 1, 0, 9, 1, 1}, ",3,,78,"}, // nor are there bytes to begin with in c's first act, but 9 is taken; and d's would end ahead of the file's end
	} {
		left := p.fails(c.cuts...)
		if left.texts() != c.want {
			t.Errorf("Fail(%d) = %q, not %q", c.cuts, left.texts(), c.want)
		}
	}
	// The same, by the names that the directory has behind its own acts.
	p.do(rename("a", "f"), rename("d", "a"), remove("c"), create("c"), appends("c", "x"))
	p.failsAll()
}

// A file that has no name now may have one behind a failure, with all that was done to it, and the one that has its name now none.
func TestP14_5NamesThatWereTaken(t *testing.T) {
	p := newPair(t, 100, create("a"), appends("a", "1"), syncs("a"), create("b"), appends("b", "2"), syncs("b"), syncDir(), appends("a", "3"), appends("b", "4"))
	p.do(rename("a", "b"), create("a"), appends("a", "5"), remove("b"), rename("a", "b"), appends("b", "6"))
	p.failsAll()
	// What was done to it without a sure name is done to it.
	p = newPair(t, 100, create("a"), appends("a", "1"), syncs("a"), rename("a", "b"), appends("b", "2"), remove("b"), create("b"))
	p.failsAll()
	// Behind a SyncDir it is there no more.
	p.do(syncDir())
	if n := p.failsAll(); n != 1 {
		t.Errorf("all is sure, and there are %d failures", n)
	}
}

// Where a write stands over what was there, a block is as it was, or as it became.
func TestP14_5Blocks(t *testing.T) {
	c := &chance{3}
	for _, size := range []int{0, 1, 511, 512, 513, 1024, 1100, 1536, 2000} {
		for _, at := range []int{0, 1, 100, 511, 512, 513, 600, 1023, 1024, 1025, 1500, 2000} {
			for _, n := range []int{0, 1, 12, 412, 511, 512, 513, 1000, 1024, 1400, 2100} {
				if at > size {
					continue
				}
				p := newPair(t, 5000, create("a"), appends("a", c.text(size)), syncs("a"), syncDir(), writes("a", at, c.text(n)), appends("a", "x"))
				for _, t := range []int{0, 1, 2, 11, 12, 13, 100, 411, 412, 413, 511, 512, 513, 523, 524, 525, 924, 1000, 1023, 1024, 1025, 1400, size - at - 1, size - at, size - at + 1, n - 1, n, n + 1} {
					if t >= 0 {
						p.fails(0, 0, t)
						p.fails(0, 1, t)
					}
				}
			}
		}
	}
}

// Each number of bytes of a write that begins within a block, stands over one and a half, and ends behind the file.
func TestP14_5EachNumberOfBytes(t *testing.T) {
	p := newPair(t, 5000, create("a"), appends("a", strings.Repeat(".", 1100)), syncs("a"), syncDir(), writes("a", 500, strings.Repeat("x", 700)))
	for n := range 701 {
		left := p.fails(0, 0, n)
		b, _ := left.f.Read("a", 0, 5000)
		want := n
		if end := 500 + n; end < 1100 {
			want = max(0, end/512*512-500)
		}
		if got := strings.Count(string(b), "x"); got != want {
			t.Errorf("%d bytes kept of a write: %d", n, got)
		}
	}
	// An act that was done is done as a whole: it is the next one that is begun.
	if b, _ := p.fails(0, 1).f.Read("a", 0, 5000); strings.Count(string(b), "x") != 700 {
		t.Errorf("a write that was done is not")
	}
	// A file's end is that behind the acts ahead: what was cut off is nothing that a write stands over.
	p = newPair(t, 5000, create("a"), appends("a", strings.Repeat(".", 1100)), syncs("a"), syncDir(), cut("a", 10), writes("a", 5, strings.Repeat("x", 700)), writes("a", 5, strings.Repeat("y", 700)))
	for n := range 701 {
		p.fails(0, 1, n)
		p.fails(0, 2, n)
	}
	if b, _ := p.fails(0, 1, 6).f.Read("a", 0, 5000); string(b) != ".....xxxxxx" {
		t.Errorf("6 bytes behind a cut: %s", short(string(b)))
	}
	if b, _ := p.fails(0, 1, 4).f.Read("a", 0, 5000); string(b) != ".........." {
		t.Errorf("4 bytes over what a cut left: %s", short(string(b)))
	}
}

func TestP14_5FailIsAnotherDisk(t *testing.T) {
	for _, dead := range []bool{false, true} {
		p := example(t)
		if dead {
			p.arm(2)
			p.do(appends("a", "e"), syncs("a"))
		} else {
			p.arm(3)
		}
		left := p.fails(1, 1)
		// Nothing is armed, and there were no acts.
		left.do(appends("a", "x"), create("c"), writes("a", 0, "y"), remove("b"), appends("c", "z"), syncs("c"), syncDir(), appends("c", "w"))
		left.failsAll()
		left.arm(1)
		left.do(create("d"))
		p.look()
		p.failsAll()
		if !dead {
			again := p.fails(1, 1)
			p.do(writes("a", 0, "###"), syncs("a"), remove("a"))
			again.look()
			again.failsAll()
			left.look()
			left.failsAll()
		}
	}
}

func TestP14_5CopiesGoTheirOwnWays(t *testing.T) {
	steps := kinds()
	for i, a := range steps {
		for _, b := range steps {
			p := example(t)
			p.do(appends("a", "1"), cut("a", 4), create("d"), remove("d"))
			other := p.copied()
			third := other.copied()
			p.do(a)
			other.look()
			other.failsAll()
			other.do(b)
			p.look()
			p.failsAll()
			other.failsAll()
			third.do(steps[(i+3)%len(steps)])
			third.failsAll()
			p.do(appends("d", ""), create("e"))
			other.failsAll()
		}
	}
}

// A copy is armed as the other one is, has as many acts behind it, and is dead, if that one is.
func TestP14_5CopyOfAllThatWasSaid(t *testing.T) {
	p := example(t)
	p.arm(2)
	other := p.copied()
	other.look()
	other.do(appends("a", "e"))
	p.look()
	other.do(appends("a", "f"))
	p.do(syncs("a"))
	if p.f.Dead() || !other.f.Dead() {
		t.Errorf("Dead = %t, and of the copy %t", p.f.Dead(), other.f.Dead())
	}
	dead := other.copied()
	dead.look()
	dead.do(create("c"))
	dead.failsAll()
	other.failsAll()
	p.arm(0)
	p.do(create("c"))
}

// What was synced, of a name that is sure, is there behind any failure, whatever is done to others.
func TestP14_6WhatWasSyncedIsThere(t *testing.T) {
	names := []string{"b", "c", "d"}
	for seed := range 30 {
		c := &chance{uint64(seed)}
		p := newPair(t, 3000, create("a"), appends("a", "kept"), cut("a", 3), writes("a", 1, "EPT"), create("b"))
		for _, a := range []([]act){{syncs("a"), syncDir()}, {syncDir(), syncs("a")}}[seed%2] {
			p.do(a)
		}
		for range 40 {
			a := c.act(p.s, names, 600)
			p.do(a)
			left := p.fails(c.cuts(8)...)
			if b, e := left.f.Read("a", 0, 99); string(b) != "kEPT" || e != api.OK {
				t.Fatalf("%s: a is %q, %v", left.what, b, e)
			}
		}
	}
}

// Of a disk on which all is sure, and of what Fail answered, any failure leaves all.
func TestP14_6AllIsSure(t *testing.T) {
	names := []string{"a", "b", "c"}
	for seed := range 40 {
		c := &chance{uint64(100 + seed)}
		p := newPair(t, 3000)
		for range 30 {
			p.do(c.act(p.s, names, 600))
		}
		left := p.fails(c.cuts(8)...)
		for range 5 {
			again := left.fails(c.cuts(8)...)
			if n := again.failsAll(); n != 1 || !slices.Equal(again.f.Names(), left.f.Names()) || again.texts() != left.texts() {
				t.Fatalf("%s: %d failures", again.what, n)
			}
		}
		for _, name := range p.s.names() {
			p.do(syncs(name))
		}
		p.do(syncDir())
		if again := p.fails(c.cuts(8)...); again.texts() != p.texts() || again.f.Acts() != 0 {
			t.Fatalf("%s: not as it was", again.what)
		}
	}
}

// texts: what all files are, as the disk tells it.
func (p *pair) texts() string {
	var all []string
	for _, name := range p.f.Names() {
		b, _ := p.f.Read(name, 0, mostRoom)
		all = append(all, string(b))
	}
	return strings.Join(all, ",")
}

// What was cut or removed comes back, though others have its room: what would grow finds none.
func TestP14_6UsedAboveRoom(t *testing.T) {
	full := strings.Repeat("a", 10)
	p := newPair(t, 10, create("a"), appends("a", full), syncs("a"), syncDir(), cut("a", 0), create("b"), appends("b", full), syncs("b"), syncDir())
	left := p.fails()
	if left.f.Used() != 20 || left.f.Room() != 10 {
		t.Fatalf("Used = %d, Room = %d", left.f.Used(), left.f.Room())
	}
	left.refused(appends("a", "x"), api.ErrFull)
	left.refused(writes("a", 10, "x"), api.ErrFull)
	left.refused(writes("a", 0, full+"x"), api.ErrFull)
	left.do(appends("a", ""), writes("a", 10, ""), writes("a", 0, full), create("c"), appends("c", ""), cut("a", 9), rename("a", "d"))
	left.refused(appends("d", "x"), api.ErrFull)
	left.refused(appends("c", "x"), api.ErrFull)
	left.do(cut("b", 1))
	left.refused(appends("c", "x"), api.ErrFull)
	left.do(cut("b", 0), appends("c", "x"))
	left.refused(appends("c", "x"), api.ErrFull)
	left.failsAll()

	p = newPair(t, 10, create("a"), appends("a", full), syncs("a"), syncDir(), remove("a"), create("b"), appends("b", full), syncs("b"), rename("b", "c"))
	p.failsAll()
	if left := p.fails(1); left.f.Used() != 0 {
		t.Errorf("Used = %d", left.f.Used())
	}
}

// Every row of up to four of these acts from an empty disk, and of up to three from one on which much is not sure; behind each,
// every failure.
func TestP14_1To6EveryRow(t *testing.T) {
	acts := []act{
		create("a"), create("b"), appends("a", "xy"), writes("a", 1, "z"), cut("a", 1), rename("a", "b"), rename("b", "a"), rename("a", "a"),
		remove("a"), syncs("a"), syncDir(),
	}
	newPair(t, 4).every(acts, 4)
	p := newPair(t, 6, create("a"), appends("a", "ab"), create("b"), syncs("a"), syncDir(), appends("b", "c"), writes("a", 1, "de"))
	p.every(append(acts, appends("b", "f"), remove("b"), syncs("b")), 3)
}

// Long rows of acts on files that have a few blocks, and failures behind which it goes on.
func TestP14_1To6LongRows(t *testing.T) {
	for seed := range 60 {
		c := &chance{uint64(1000 + seed)}
		names := []string{"a", "b", "c", "d-1", "d.1"}[:one(c, 1, 2, 5)]
		p := newPair(t, one(c, 10, 600, 3000, 20000))
		for round := range 6 {
			p.what = fmt.Sprintf("seed %d, round %d", seed, round)
			if c.below(2) == 0 {
				p.arm(c.below(60))
			}
			for range 50 {
				p.do(c.act(p.s, names, 1500))
				p.fails(c.cuts(10)...)
			}
			p = p.fails(c.cuts(10)...)
		}
	}
}

// As many acts as there is room for bytes, none of them sure: none of them costs more for those ahead.
func TestP14_1To6ManyActs(t *testing.T) {
	f := made(t, mostRoom)
	f.Create("a")
	for i := range mostRoom {
		if e := f.Append("a", []byte{byte(i % 251)}); e != api.OK {
			t.Fatalf("Append of byte %d = %v", i, e)
		}
	}
	if e := f.Append("a", []byte("x")); e != api.ErrFull || f.Acts() != mostRoom+1 {
		t.Errorf("Append to a full disk = %v, Acts = %d", e, f.Acts())
	}
	for _, n := range []int{0, 1, 1000, mostRoom - 1, mostRoom} {
		left, e := f.Fail([]int{1, n})
		if e != api.OK || left.Used() != n {
			t.Errorf("Fail(1, %d): Used = %d, %v", n, left.Used(), e)
		}
	}
	if e := f.Sync("a"); e != api.OK {
		t.Errorf("Sync = %v", e)
	}
	for range 100000 {
		f.Rename("a", "b")
		f.Rename("b", "a")
	}
	left, e := f.Fail([]int{1})
	b, _ := left.Read("a", 0, mostRoom)
	for i := range b {
		if b[i] != byte(i%251) {
			t.Fatalf("byte %d is %d", i, b[i])
		}
	}
	if e != api.OK || len(b) != mostRoom {
		t.Errorf("Fail(1): %d bytes, %v", len(b), e)
	}
}
