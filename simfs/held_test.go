package simfs_test

import (
	"fmt"
	"slices"
	"testing"

	"stook/api"
	"stook/draw"
	"stook/simfs"
)

// What holds a disk against what the words say.

// pair: a disk, and one as the words say it, to which the same is done.
type pair struct {
	t    *testing.T
	what string
	f    *simfs.FS
	s    *said
}

// newPair: an empty disk of that room, to which these acts are done.
func newPair(t *testing.T, room int, acts ...act) *pair {
	t.Helper()
	p := &pair{t: t, what: fmt.Sprintf("room %d", room), f: made(t, room), s: newSaid(room)}
	p.do(acts...)
	return p
}

// made: an empty disk of that room, which must be there.
func made(t *testing.T, room int) *simfs.FS {
	t.Helper()
	f, e := simfs.New(room)
	if f == nil || e != api.OK {
		t.Fatalf("New(%d) = %v, %v", room, f, e)
	}
	return f
}

// example: the disk of the chapter's examples.
func example(t *testing.T) *pair {
	t.Helper()
	return newPair(t, 10, create("a"), appends("a", "ab"), syncs("a"), syncDir(), appends("a", "cd"), create("b"))
}

// short: the text, or what one likes to read of it.
func short(text string) string {
	if len(text) <= 20 {
		return fmt.Sprintf("%q", text)
	}
	return fmt.Sprintf("%q.. of %d", text[:20], len(text))
}

func (a act) String() string {
	return fmt.Sprintf("%s(%s %s %d %s)", a.what, short(a.name), short(a.to), a.at, short(a.b))
}

// do: these acts, of both, and what both are behind each.
func (p *pair) do(acts ...act) {
	p.t.Helper()
	for _, a := range acts {
		want := p.s.do(a)
		p.what += fmt.Sprintf(", %v", a)
		if e := a.do(p.f); e != want {
			p.t.Fatalf("%s = %v, not %v", p.what, e, want)
		}
		p.look()
	}
}

// refused: this act is refused so, and nothing is other than it was.
func (p *pair) refused(a act, why api.Errno) {
	p.t.Helper()
	if e := a.do(p.f); e != why {
		p.t.Errorf("%s, %v = %v, not %v", p.what, a, e, why)
	}
	p.look()
}

// arm: that, of both.
func (p *pair) arm(n int) {
	p.t.Helper()
	p.s.arm(n)
	p.what += fmt.Sprintf(", arm(%d)", n)
	if e := p.f.Arm(n); e != api.OK {
		p.t.Fatalf("%s = %v", p.what, e)
	}
	p.look()
}

// copied: a copy of both.
func (p *pair) copied() *pair {
	p.t.Helper()
	other := &pair{t: p.t, what: p.what + ", copied", f: p.f.Copy(), s: p.s.copied()}
	if other.f == nil {
		p.t.Fatalf("%s: Copy is nil", p.what)
	}
	return other
}

func (p *pair) look() {
	p.t.Helper()
	looksAs(p.t, p.what, p.f, p.s)
}

// looksAs: all that may be asked of the disk, twice, for the first time may have changed something.
func looksAs(t *testing.T, what string, f *simfs.FS, s *said) {
	t.Helper()
	for range 2 {
		if f.Acts() != s.acts || f.Dead() != s.dead {
			t.Fatalf("%s: Acts = %d, Dead = %t, not %d, %t", what, f.Acts(), f.Dead(), s.acts, s.dead)
		}
		names, used, room := s.names(), s.used(), s.room
		if s.dead {
			names, used, room = nil, 0, 0
		}
		if !slices.Equal(f.Names(), names) || f.Used() != used || f.Room() != room {
			t.Fatalf("%s: Names = %q, Used = %d, Room = %d, not %q, %d, %d", what, f.Names(), f.Used(), f.Room(), names, used, room)
		}
		for _, name := range append(s.names(), "none") {
			fileAs(t, what, f, s, name)
		}
	}
}

// fileAs: the file of that name, if there is one.
func fileAs(t *testing.T, what string, f *simfs.FS, s *said, name string) {
	t.Helper()
	want, why := "", api.OK
	if file := s.dir()[name]; s.dead {
		why = api.ErrDead
	} else if file == nil {
		why = api.ErrNone
	} else {
		want = file.now()
	}
	if n, e := f.Size(name); n != len(want) || e != why {
		t.Fatalf("%s: Size(%q) = %d, %v, not %d, %v", what, name, n, e, len(want), why)
	}
	if b, e := f.Read(name, 0, mostRoom); string(b) != want || e != why {
		t.Fatalf("%s: Read(%q) = %s, %v, not %s, %v", what, name, short(string(b)), e, short(want), why)
	}
}

// fails: Fail by these numbers leaves what the words say, and leaves the disk as it is.
func (p *pair) fails(cuts ...int) *pair {
	p.t.Helper()
	what := fmt.Sprintf("%s, fail%d", p.what, cuts)
	given := slices.Clone(cuts)
	left, many := p.s.fail(cuts)
	f, e := p.f.Fail(given)
	if f == nil || e != api.OK {
		p.t.Fatalf("%s (of %d) = %v, %v", what, many, f, e)
	}
	if !slices.Equal(given, cuts) {
		p.t.Fatalf("%s: the numbers are %d now", what, given)
	}
	looksAs(p.t, fmt.Sprintf("%s (of %d)", what, many), f, left)
	return &pair{t: p.t, what: what, f: f, s: left}
}

// failsAll: Fail by all numbers that tell something; how many rows of numbers these are.
func (p *pair) failsAll() int {
	p.t.Helper()
	n := 0
	for cuts := []int{}; cuts != nil; n++ {
		p.fails(cuts...)
		_, many := p.s.fail(cuts)
		cuts = next(cuts, many)
	}
	p.look()
	return n
}

// next: the row of numbers behind this one, taken of so many; nil behind the last one.
func next(cuts, many []int) []int {
	for len(cuts) < len(many) {
		cuts = append(cuts, 0)
	}
	for i := len(many) - 1; i >= 0; i-- {
		if cuts[i]+1 < many[i] {
			return append(slices.Clone(cuts[:i]), cuts[i]+1)
		}
	}
	return nil
}

// every: this disk, and copies of it to which each row of so many of these acts is done, behind each act and each failure.
func (p *pair) every(acts []act, depth int) {
	p.t.Helper()
	p.failsAll()
	if depth == 0 {
		return
	}
	for _, a := range acts {
		other := p.copied()
		other.do(a)
		other.every(acts, depth-1)
	}
	// The copies went their own ways.
	p.look()
}

// chance: words by a seed.
type chance struct{ seed uint64 }

// below: a number below n.
func (c *chance) below(n int) int {
	word, next := draw.Next(c.seed)
	c.seed = next
	return int(word % uint64(n))
}

// one: one of these.
func one[T any](c *chance, l ...T) T { return l[c.below(len(l))] }

// text: so many bytes without a pattern.
func (c *chance) text(n int) string {
	b := make([]byte, n)
	for i := range b {
		b[i] = byte('a' + c.below(26))
	}
	return string(b)
}

// act: an act on one of these names, with bytes up to so many, which now and then is refused.
func (c *chance) act(s *said, names []string, most int) act {
	name := one(c, names...)
	size := 0
	if file := s.dir()[name]; file != nil {
		size = len(file.now())
	}
	// Most of what goes wrong goes wrong about the edges of blocks, and of files.
	at := one(c, c.below(size+1), c.below(size+1)/block*block, max(size-1, 0), size, size, size+1, -1)
	b := c.text(one(c, 0, 1, c.below(most+1), min(block, most), most))
	switch c.below(20) {
	case 0, 1, 2:
		return create(name)
	case 3:
		return rename(name, one(c, names...))
	case 4:
		return remove(name)
	case 5, 6, 7:
		return cut(name, at)
	case 8:
		return syncs(name)
	case 9:
		return one(c, syncDir(), rename(name, "A"), create(""), syncs("none"))
	case 10, 11, 12, 13:
		return appends(name, b)
	}
	return writes(name, at, b)
}

// cuts: up to n numbers, of all sizes.
func (c *chance) cuts(n int) []int {
	var l []int
	for range c.below(n + 1) {
		word, next := draw.Next(c.seed)
		c.seed = next
		l = append(l, int(word)>>c.below(64))
	}
	return l
}
