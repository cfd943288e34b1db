package pager_test

import (
	"bytes"
	"fmt"
	"math"
	"slices"
	"strings"
	"testing"

	"stook/api"
	"stook/pager"
	"stook/simfs"
)

// opened: a pager, which must be there.
func opened(t *testing.T, f *simfs.FS, cache int) *pager.Pager {
	t.Helper()
	p, e := pager.Open(f, "i", cache)
	if p == nil || e != api.OK {
		t.Fatalf("Open: %v", e)
	}
	return p
}

// made: a file as Make makes it, whose name is sure, and a pager on it.
func made(t *testing.T, room, cache int) (*simfs.FS, *pager.Pager) {
	t.Helper()
	f, _ := simfs.New(room)
	if e := pager.Make(f, "i"); e != api.OK {
		t.Fatalf("Make: %v", e)
	}
	f.SyncDir()
	return f, opened(t, f, cache)
}

// both: a pager, and what it is by the words.
type both struct {
	*testing.T
	disk  *simfs.FS
	p     *pager.Pager
	s     *saidPager
	cache int
}

func fresh(t *testing.T, room, cache int) *both {
	t.Helper()
	f, p := made(t, room, cache)
	return &both{t, f, p, madeSaid(), cache}
}

// on: a disk with a file of these bytes, whose newest root is that one.
func on(t *testing.T, room, cache int, r api.Root, file []byte) *both {
	t.Helper()
	f := diskWith(room, "i", file)
	return &both{t, f, opened(t, f, cache), newSaid(r, file), cache}
}

func (b *both) use(n int, has said) {
	b.Helper()
	if e, why := b.p.Use(n), b.s.use(n, has); e != why {
		b.Errorf("Use(%d) = %v, not %v", n, e, why)
	}
}

func (b *both) read(n int) {
	b.Helper()
	kind, body, e := b.p.Read(n)
	if want, why := b.s.read(n); kind != want.kind || string(body) != want.body || e != why {
		b.Errorf("Read(%d) = %d, %q, %v, not %d, %q, %v", n, kind, body, e, want.kind, want.body, why)
	}
}

func (b *both) add(has said) int {
	b.Helper()
	n, e := b.p.Add(has.kind, []byte(has.body))
	if want, why := b.s.add(has); n != want || e != why {
		b.Errorf("Add(%d bytes) = %d, %v, not %d, %v", len(has.body), n, e, want, why)
	}
	return n
}

func (b *both) drop(n int) {
	b.Helper()
	if e, why := b.p.Drop(n), b.s.drop(n); e != why {
		b.Errorf("Drop(%d) = %v, not %v", n, e, why)
	}
}

func (b *both) back() {
	b.p.Back()
	b.s.back()
}

// commit: all that Commit changes, on the disk too.
func (b *both) commit(r api.Root) api.Errno {
	b.Helper()
	was := bytesOf(b.disk, "i")
	e := b.p.Commit(r)
	if why := b.s.commit(r, b.disk.Room()); e != why {
		b.Fatalf("Commit(%v) = %v, not %v", r, e, why)
	}
	is := bytesOf(b.disk, "i")
	switch {
	case e == api.ErrFull:
		b.sameButFree(was, is)
		b.s.file = is
	case !bytes.Equal(is, b.s.file):
		b.Errorf("Commit(%v): the file has %d bytes, not %d, or other ones", r, len(is), len(b.s.file))
	}
	b.look()
	return e
}

// sameButFree: the file is as long as it was, and nothing but pages that are free now is another one.
func (b *both) sameButFree(was, is []byte) {
	b.Helper()
	if len(was) != len(is) {
		b.Fatalf("the file has %d bytes, not %d", len(is), len(was))
	}
	for i := range was {
		if _, used := b.s.used[i/pageBytes]; was[i] != is[i] && (i < 2*pageBytes || used) {
			b.Fatalf("byte %d of the page %d is another one", i%pageBytes, i/pageBytes)
		}
	}
}

// look: whatever a pager tells.
func (b *both) look() {
	b.Helper()
	if r := b.p.Root(); r != b.s.root {
		b.Errorf("Root = %v, not %v", r, b.s.root)
	}
	most := 4
	for n := range b.s.used {
		most = max(most, n+3)
	}
	for n := range b.s.pending {
		most = max(most, n+3)
	}
	var used, pending []int
	for n := -2; n < most; n++ {
		b.read(n)
		if _, ok := b.s.used[n]; ok {
			used = append(used, n)
		}
		if _, ok := b.s.pending[n]; ok {
			pending = append(pending, n)
		}
	}
	if l := b.p.InUse(); !slices.Equal(l, used) {
		b.Errorf("InUse = %d, not %d", l, used)
	}
	if l := b.p.Pending(); !slices.Equal(l, pending) {
		b.Errorf("Pending = %d, not %d", l, pending)
	}
	if n := b.p.Cached(); n < 0 || n > b.cache || n > len(used) {
		b.Errorf("Cached = %d, of %d at most, and %d in use", n, b.cache, len(used))
	}
}

// rootOf: a root that may be, of that page.
func rootOf(page int) api.Root { return api.Root{Page: page, Next: 1} }

func TestP17Examples(t *testing.T) {
	b := fresh(t, 1<<16, 4)
	b.add(said{9, "a"})
	b.add(said{9, "b"})
	b.drop(2)
	b.add(said{9, "c"})
	b.commit(rootOf(2))
	if r := b.p.Root(); r.Seq != 2 || r.Page != 2 || r.Pages != 4 || !slices.Equal(b.p.InUse(), []int{2, 3}) {
		t.Errorf("Root = %v, InUse = %d", r, b.p.InUse())
	}
	if kind, body, e := b.p.Read(3); kind != 9 || string(body) != "b" || e != api.OK {
		t.Errorf("Read(3) = %d, %q, %v", kind, body, e)
	}
	b.drop(3)
	if n := b.add(said{9, "d"}); n != 4 {
		t.Errorf("Add = %d", n)
	}
	b.back()
	b.look()
	if _, _, e := b.p.Read(4); len(b.p.Pending()) != 0 || e != api.ErrNone {
		t.Errorf("Pending = %d, Read(4): %v", b.p.Pending(), e)
	}
	b.drop(3)
	if e := b.commit(rootOf(2)); e != api.OK || !slices.Equal(b.p.InUse(), []int{2}) {
		t.Errorf("Commit: %v, InUse = %d", e, b.p.InUse())
	}
	if n, e := b.p.Add(9, []byte("e")); n != 3 || e != api.OK || b.p.Use(2) != api.ErrTwice || b.p.Use(9) != api.ErrArg {
		t.Errorf("Add = %d, %v", n, e)
	}
}

func TestP17_1MakeIsTwoPages(t *testing.T) {
	f := diskWith(mostRoom, "other", []byte("o"))
	if e := pager.Make(f, "i"); e != api.OK {
		t.Fatalf("Make: %v", e)
	}
	want := madeSaid().file
	if b := bytesOf(f, "i"); !bytes.Equal(b, want) || !bytes.Equal(bytesOf(f, "other"), []byte("o")) || len(f.Names()) != 2 {
		t.Errorf("Make: %x, %q", b, f.Names())
	}
	// What is in the file is sure, that it is there is not.
	left, _ := f.Fail([]int{1})
	if b := bytesOf(left, "i"); !bytes.Equal(b, want) {
		t.Errorf("behind a failure: %x", b)
	}
	left, _ = f.Fail(nil)
	if l := left.Names(); !slices.Equal(l, []string{"other"}) {
		t.Errorf("behind a failure that leaves the directory as it was: %q", l)
	}
	// Of the smallest disk that has room for it.
	f, _ = simfs.New(2 * pageBytes)
	if e := pager.Make(f, "i"); e != api.OK || !bytes.Equal(bytesOf(f, "i"), want) {
		t.Errorf("Make on a disk of %d bytes: %v", 2*pageBytes, e)
	}
}

func TestP17_1MakeRefused(t *testing.T) {
	full := func(room int) *simfs.FS { f, _ := simfs.New(room); return f }
	crowd := roomy()
	for i := range 64 {
		crowd.Create(fmt.Sprint("f", i))
	}
	there := diskWith(mostRoom, "i", []byte("xyz"))
	for i, c := range []struct {
		f    *simfs.FS
		name string
		e    api.Errno
	}{
		{nil, "i", api.ErrNil}, {nil, "", api.ErrNil}, {new(simfs.FS), "i", api.ErrNil}, {new(simfs.FS), "I", api.ErrNil},
		{dying("j"), "i", api.ErrDead}, {dying("i"), "I", api.ErrDead},
		{roomy(), "", api.ErrArg}, {roomy(), "I", api.ErrArg}, {roomy(), strings.Repeat("i", 33), api.ErrArg},
		{roomy(), strings.Repeat("i", 32), api.OK}, {there, "i", api.ErrTwice}, {crowd, "i", api.ErrLimit}, {crowd, "I", api.ErrArg},
		{full(0), "i", api.ErrFull}, {full(511), "i", api.ErrFull}, {full(512), "i", api.ErrFull}, {full(1023), "i", api.ErrFull},
		{diskWith(2047, "o", make([]byte, 1024)), "i", api.ErrFull}, {diskWith(2048, "o", make([]byte, 1024)), "i", api.OK},
	} {
		if e := pager.Make(c.f, c.name); e != c.e {
			t.Errorf("%d: Make(%q) = %v, not %v", i, c.name, e, c.e)
		}
	}
	if string(bytesOf(there, "i")) != "xyz" || len(crowd.Names()) != 64 {
		t.Errorf("Make that is refused changed a file, or made one")
	}
}

// Wherever the power fails in Make: ErrDead; and where it answers OK what it made is there.
func TestP17_1MakeFails(t *testing.T) {
	for at := 1; ; at++ {
		f := roomy()
		f.Arm(at)
		e := pager.Make(f, "i")
		if f.Dead() != (e == api.ErrDead) || e != api.OK && e != api.ErrDead {
			t.Fatalf("%d: Make: %v", at, e)
		}
		if e == api.OK {
			if at < 4 {
				t.Errorf("Make has %d acts", at-1)
			}
			return
		}
	}
}

func TestP17_1OpenTellsTheNewestRoot(t *testing.T) {
	older, newer := api.Root{Seq: 6, Page: 3, Pages: 4, Lsn: 5, Next: 6, Shard: 7, Tail: 8}, api.Root{Seq: 7, Pages: 2, Next: 9}
	spoilt := rootPage(newer)
	spoilt[20] ^= 1
	for i, c := range []struct {
		file []byte
		want api.Root
	}{
		{slices.Concat(rootPage(older), rootPage(newer)), newer},
		{slices.Concat(rootPage(older), spoilt), older},
		{slices.Concat(rootPage(older), make([]byte, pageBytes)), older},
		{slices.Concat(make([]byte, pageBytes), rootPage(newer)), newer},
		{slices.Concat(rootPage(older), rootPage(newer), make([]byte, 3*pageBytes+7)), newer},
		{slices.Concat(rootPage(api.Root{Seq: 8, Pages: 2, Next: 1}), rootPage(newer), []byte{1}), api.Root{Seq: 8, Pages: 2, Next: 1}},
		{twoPages(api.Root{Seq: muchSeq, Page: 65535, Pages: 65536, Lsn: 1 << 62, Next: 1 << 32, Shard: 1<<31 - 1, Tail: 1 << 20}),
			api.Root{Seq: muchSeq, Page: 65535, Pages: 65536, Lsn: 1 << 62, Next: 1 << 32, Shard: 1<<31 - 1, Tail: 1 << 20}},
	} {
		f := diskWith(mostRoom, "i", c.file)
		acts := f.Acts()
		for _, cache := range []int{0, 1, mostCache} {
			p := opened(t, f, cache)
			if r := p.Root(); r != c.want || len(p.InUse()) != 0 || len(p.Pending()) != 0 || p.Cached() != 0 {
				t.Errorf("%d: Root = %v, InUse = %d, Pending = %d, Cached = %d", i, r, p.InUse(), p.Pending(), p.Cached())
			}
		}
		if f.Acts() != acts || !bytes.Equal(bytesOf(f, "i"), c.file) {
			t.Errorf("%d: Open changed the file", i)
		}
	}
}

func TestP17_1OpenOfThatName(t *testing.T) {
	f := diskWith(mostRoom, "i", twoPages(api.Root{Seq: 3, Pages: 2, Next: 1}))
	longest := strings.Repeat("x", 32)
	pager.Make(f, longest)
	p, e := pager.Open(f, longest, 0)
	if e != api.OK || p.Root().Seq != 1 {
		t.Fatalf("Open: %v, Root = %v", e, p.Root())
	}
	n, _ := p.Add(1, []byte("x"))
	if e := p.Commit(rootOf(n)); e != api.OK || len(bytesOf(f, longest)) != 3*pageBytes || len(bytesOf(f, "i")) != 2*pageBytes {
		t.Errorf("Commit: %v", e)
	}
	if _, body, e := p.Read(n); string(body) != "x" || e != api.OK {
		t.Errorf("Read(%d) = %q, %v", n, body, e)
	}
}

func TestP17_1OpenRefused(t *testing.T) {
	good := madeSaid().file
	spoilt := bytes.Clone(good)
	spoilt[pageBytes+13]++
	swapped := slices.Concat(good[pageBytes:], good[:pageBytes])
	with := func(b []byte) *simfs.FS { return diskWith(mostRoom, "i", b) }
	for i, c := range []struct {
		f     *simfs.FS
		name  string
		cache int
		e     api.Errno
	}{
		{nil, "i", 4, api.ErrNil}, {nil, "i", -1, api.ErrNil}, {new(simfs.FS), "i", 4, api.ErrNil}, {new(simfs.FS), "I", 257, api.ErrNil},
		{with(good), "i", -1, api.ErrArg}, {with(good), "i", 257, api.ErrArg}, {with(good), "i", math.MinInt, api.ErrArg},
		{with(good), "i", math.MaxInt, api.ErrArg}, {with(good), "j", 257, api.ErrArg}, {dying("i"), "i", -1, api.ErrArg},
		{with(nil), "i", 257, api.ErrArg}, {with(make([]byte, 1024)), "i", -1, api.ErrArg},
		{dying("i"), "i", 4, api.ErrDead}, {dying("j"), "i", 4, api.ErrDead},
		{with(good), "j", 4, api.ErrNone}, {with(good), "", 4, api.ErrNone}, {with(good), "I", 4, api.ErrNone}, {roomy(), "i", 0, api.ErrNone},
		{with(nil), "i", 4, api.ErrShort}, {with(good[:511]), "i", 4, api.ErrShort}, {with(good[:512]), "i", 4, api.ErrShort},
		{with(good[:1023]), "i", 4, api.ErrShort}, {with(rootPage(api.Root{Seq: 2, Pages: 2, Next: 1})), "i", 4, api.ErrShort},
		{with(make([]byte, 1024)), "i", 4, api.ErrNone}, {with(spoilt), "i", 4, api.ErrNone}, {with(swapped), "i", 4, api.ErrNone},
		{with(slices.Concat(make([]byte, 1024), good)), "i", 4, api.ErrNone}, {with(twoPages(api.Root{Seq: 1, Pages: 1, Next: 1})), "i", 4, api.ErrNone},
		{with(good), "i", 0, api.OK}, {with(good), "i", 256, api.OK},
	} {
		if p, e := pager.Open(c.f, c.name, c.cache); e != c.e || (p == nil) != (e != api.OK) {
			t.Errorf("%d: Open(%q, %d) = %t, %v, not %v", i, c.name, c.cache, p != nil, e, c.e)
		}
	}
}

func TestP17_2Use(t *testing.T) {
	r := api.Root{Seq: 4, Page: 3, Pages: 6, Next: 1}
	file := slices.Concat(twoPages(r), pageOf(2, 7, []byte("two")), pageOf(3, 8, nil), pageOf(4, 0, make([]byte, mostBody)), pageOf(5, 255, []byte{0}))
	b := on(t, mostRoom, 3, r, file)
	for _, n := range []int{math.MinInt, -1, 0, 1, 6, 7, 65535, 65536, math.MaxInt} {
		b.use(n, said{})
	}
	b.look()
	for n, has := range []said{{7, "two"}, {8, ""}, {0, string(make([]byte, mostBody))}, {255, "\x00"}} {
		b.use(n+2, has)
		b.use(n+2, has)
		b.look()
	}
	b.drop(4)
	b.use(4, said{}) // in use still
	b.look()
	if e := b.commit(rootOf(3)); e != api.OK {
		t.Fatalf("Commit: %v", e)
	}
	// Page 4 is free: what stood in it may be told of once more.
	b.use(4, said{0, string(make([]byte, mostBody))})
	b.use(6, said{})
	b.look()
}

// A page that is pending has a number that Use might say.
func TestP17_2UseOfWhatIsPending(t *testing.T) {
	r := api.Root{Seq: 4, Pages: 4, Next: 1}
	b := on(t, mostRoom, 3, r, slices.Concat(twoPages(r), pageOf(2, 7, []byte("two")), pageOf(3, 8, []byte("three"))))
	b.add(said{1, "x"})
	b.use(2, said{})
	b.use(3, said{8, "three"})
	b.add(said{1, "y"})
	b.use(4, said{})
	b.look()
	b.back()
	b.use(2, said{7, "two"})
	b.look()
}

func TestP17_2ReadRefused(t *testing.T) {
	r := api.Root{Seq: 4, Pages: 65536, Next: 1}
	spoilt := pageOf(3, 1, []byte("three"))
	spoilt[40] ^= 4
	odd := pageOf(5, 1, nil)
	odd[9] = 1
	file := slices.Concat(twoPages(r), pageOf(2, 1, []byte("two")), spoilt, pageOf(9, 1, []byte("four")), make([]byte, pageBytes), pageOf(6, 1, nil)[:511])
	for _, cache := range []int{0, 5} {
		b := on(t, mostRoom, cache, r, file)
		_, beyond := b.disk.Read("i", 7*pageBytes, pageBytes)
		for n, why := range map[int]api.Errno{2: api.OK, 3: api.ErrSum, 4: api.ErrForm, 5: api.ErrSum, 6: api.ErrShort, 7: beyond, 65535: beyond} {
			refused(t, b.p, n, api.ErrNone)
			b.p.Use(n)
			for range 2 {
				if n != 2 {
					refused(t, b.p, n, why)
				} else if _, body, e := b.p.Read(n); string(body) != "two" || e != why {
					t.Errorf("Read(2) = %q, %v", body, e)
				}
			}
		}
		if n := b.p.Cached(); n != min(cache, 1) {
			t.Errorf("Cached = %d, of one page that could be read", n)
		}
		for _, n := range []int{math.MinInt, math.MinInt / pageBytes, -1, 0, 1, 8, 65536, math.MaxInt / pageBytes, math.MaxInt} {
			refused(t, b.p, n, api.ErrNone)
		}
	}
	// A file that ends just where the page should begin.
	b := on(t, mostRoom, 1, r, twoPages(r))
	b.p.Use(2)
	refused(t, b.p, 2, api.ErrShort)
}

// refused: Read tells this error of the page, and nothing beside.
func refused(t *testing.T, p *pager.Pager, n int, why api.Errno) {
	t.Helper()
	if kind, body, e := p.Read(n); kind != 0 || len(body) != 0 || e != why {
		t.Errorf("Read(%d) = %d, %q, %v, not %v", n, kind, body, e, why)
	}
}

// What is refused may not be refused the next time: nothing of it is kept.
func TestP17_2ReadBehindARefusal(t *testing.T) {
	r := api.Root{Seq: 4, Pages: 3, Next: 1}
	b := on(t, mostRoom, 4, r, slices.Concat(twoPages(r), pageOf(2, 1, []byte("two"))[:500]))
	b.use(2, said{1, "two"})
	refused(t, b.p, 2, api.ErrShort)
	b.disk.Append("i", make([]byte, 12))
	b.look()
}

// On a disk that is dead no page is read, at hand or not; a page that was never written needs none.
func TestP17_2ReadOnADeadDisk(t *testing.T) {
	for _, cache := range []int{0, 1, 4} {
		b := fresh(t, mostRoom, cache)
		b.add(said{1, "x"})
		b.add(said{2, "y"})
		b.commit(rootOf(2))
		n := b.add(said{3, "z"})
		b.disk.Arm(1)
		b.disk.SyncDir()
		refused(t, b.p, 2, api.ErrDead)
		refused(t, b.p, 3, api.ErrDead)
		refused(t, b.p, 9, api.ErrNone)
		b.read(n)
	}
}

func TestP17_2Gone(t *testing.T) {
	b := fresh(t, mostRoom, 0)
	b.add(said{1, "x"})
	b.commit(rootOf(2))
	b.disk.Remove("i")
	refused(t, b.p, 2, api.ErrNone)
	b.add(said{1, "y"})
	if e := b.p.Commit(rootOf(3)); e != api.ErrNone {
		t.Errorf("Commit without a file: %v", e)
	}
	if e := b.p.Commit(rootOf(4)); e != api.ErrArg {
		t.Errorf("Commit of no page without a file: %v", e)
	}
	if r := b.p.Root(); r != b.s.root || !slices.Equal(b.p.Pending(), []int{3}) || !slices.Equal(b.p.InUse(), []int{2}) {
		t.Errorf("Root = %v, Pending = %d, InUse = %d", r, b.p.Pending(), b.p.InUse())
	}
}

func TestP17_3AddTellsTheLeastFree(t *testing.T) {
	r := api.Root{Seq: 4, Pages: 9, Next: 1}
	b := on(t, mostRoom, 4, r, slices.Concat(twoPages(r), pageOf(2, 1, nil), make([]byte, pageBytes), make([]byte, pageBytes), pageOf(5, 1, nil)))
	b.use(5, said{1, ""})
	b.use(2, said{1, ""})
	for i, want := range []int{3, 4, 6, 7, 8, 9} {
		if n := b.add(said{uint8(i), "x"}); n != want {
			t.Errorf("Add = %d, not %d", n, want)
		}
	}
	b.look()
	b.drop(7)
	b.drop(3)
	b.drop(2) // in use: not free yet
	for i, want := range []int{3, 7, 10} {
		if n := b.add(said{uint8(i), "y"}); n != want {
			t.Errorf("Add behind Drop = %d, not %d", n, want)
		}
	}
	b.look()
	b.commit(rootOf(10))
	for i, want := range []int{2, 11} {
		if n := b.add(said{uint8(i), "z"}); n != want {
			t.Errorf("Add behind Commit = %d, not %d", n, want)
		}
	}
	b.back()
	if n := b.add(said{}); n != 2 {
		t.Errorf("Add behind Back = %d", n)
	}
	b.use(12, said{})
	b.look()
}

func TestP17_3AddRefused(t *testing.T) {
	b := fresh(t, mostRoom, 4)
	for _, length := range []int{mostBody + 1, mostBody + 2, pageBytes, 1 << 16} {
		b.add(said{1, string(make([]byte, length))})
	}
	b.look()
	for _, length := range []int{0, 1, mostBody - 1, mostBody} {
		b.add(said{1, strings.Repeat("x", length)})
	}
	b.look()
}

// Every number below MaxPages is told once; then none is free, till one is dropped.
func TestP17_3AddTillNoNumberIsFree(t *testing.T) {
	f, p := made(t, mostRoom, 4)
	for n := 2; n < mostPages; n++ {
		if got, e := p.Add(uint8(n), nil); got != n || e != api.OK {
			t.Fatalf("Add = %d, %v, not %d", got, e, n)
		}
	}
	none := func() {
		t.Helper()
		for _, body := range [][]byte{nil, make([]byte, mostBody+1)} {
			if n, e := p.Add(1, body); n != 0 || e != api.ErrLimit {
				t.Errorf("Add = %d, %v", n, e)
			}
		}
	}
	none()
	for _, n := range []int{40000, 2, 65535} {
		if e := p.Drop(n); e != api.OK {
			t.Errorf("Drop(%d): %v", n, e)
		}
		if got, e := p.Add(7, nil); got != n || e != api.OK {
			t.Errorf("Add = %d, %v, not %d", got, e, n)
		}
		none()
	}
	was := p.Root()
	if e := p.Commit(rootOf(2)); e != api.ErrFull || p.Root() != was || len(p.Pending()) != mostPages-2 || !bytes.Equal(bytesOf(f, "i"), madeSaid().file) {
		t.Errorf("Commit: %v, Root = %v, %d pending, %d bytes", e, p.Root(), len(p.Pending()), len(bytesOf(f, "i")))
	}
	none()
	p.Back()
	if n, e := p.Add(1, nil); n != 2 || e != api.OK || len(p.Pending()) != 1 {
		t.Errorf("Add behind Back = %d, %v", n, e)
	}
}

func TestP17_3Drop(t *testing.T) {
	b := fresh(t, mostRoom, 4)
	for _, n := range []int{math.MinInt, -1, 0, 1, 2, 3, 65536, math.MaxInt} {
		b.drop(n)
	}
	b.add(said{1, "x"})
	b.add(said{2, "y"})
	b.drop(2)
	b.drop(2)
	b.look()
	b.commit(rootOf(3))
	b.drop(2)
	b.drop(3)
	b.look() // in use, and read, as ahead of it
	b.drop(3)
	b.look()
	b.back()
	b.drop(3)
	b.commit(rootOf(0))
	b.drop(3)
	b.look()
}

func TestP17_4WhatTheRootIs(t *testing.T) {
	b := fresh(t, mostRoom, 4)
	full := api.Root{Seq: 77, Page: 0, Pages: 99, Lsn: 1 << 62, Next: 1 << 32, Shard: 1<<31 - 1, Tail: 1 << 20}
	b.commit(full) // no page is there
	for _, s := range []string{"x", "y", "z"} {
		b.add(said{1, s})
	}
	b.drop(3)
	b.commit(api.Root{Seq: 1<<64 - 1, Page: 2, Pages: -5, Lsn: 3, Next: 4, Shard: 5, Tail: 6})
	b.drop(4)
	b.commit(rootOf(2)) // Pages is less now
	b.add(said{1, "w"})
	b.add(said{1, "v"})
	b.drop(2)
	b.commit(rootOf(4))
	b.commit(rootOf(3))
	b.drop(3)
	b.drop(4)
	b.commit(rootOf(0))
	if r := b.p.Root(); r != (api.Root{Seq: 7, Pages: 2, Next: 1}) {
		t.Errorf("Root = %v", r)
	}
}

func TestP17_4CommitRefused(t *testing.T) {
	b := fresh(t, mostRoom, 4)
	b.add(said{1, "x"})
	b.add(said{2, "y"})
	b.add(said{3, "z"})
	b.commit(rootOf(3))
	b.drop(3)
	b.add(said{4, "w"})
	b.add(said{5, "v"})
	b.drop(6)
	want := b.p.Root()
	for _, page := range []int{math.MinInt, -1, 1, 3, 6, 7, 65535, 65536, math.MaxInt} {
		if e := b.commit(rootOf(page)); e != api.ErrArg {
			t.Errorf("Commit of the page %d: %v", page, e)
		}
	}
	for _, r := range []api.Root{
		{Next: 0}, {Next: 1<<32 + 1}, {Next: 1, Lsn: 1<<62 + 1}, {Next: 1, Shard: -1}, {Next: 1, Shard: 1 << 31}, {Next: 1, Tail: -1}, {Next: 1, Tail: 1<<20 + 1},
	} {
		if e := b.commit(r); e != api.ErrArg {
			t.Errorf("Commit(%v): %v", r, e)
		}
	}
	if b.p.Root() != want {
		t.Errorf("Root = %v, not %v", b.p.Root(), want)
	}
	for _, page := range []int{2, 4, 5, 0} {
		c := &both{t, b.disk.Copy(), nil, newSaid(b.s.root, b.s.file), 4}
		c.p = opened(t, c.disk, 4)
		for n := 2; n < 5; n++ {
			c.use(n, b.s.used[n])
		}
		c.drop(3)
		c.add(said{4, "w"})
		if e := c.commit(rootOf(page)); e != api.OK {
			t.Errorf("Commit of the page %d: %v", page, e)
		}
	}
}

// There is no root behind that of the greatest Seq.
func TestP17_4CommitAtTheGreatestSeq(t *testing.T) {
	r := api.Root{Seq: muchSeq - 1, Pages: 2, Next: 1}
	b := on(t, mostRoom, 4, r, twoPages(r))
	b.add(said{1, "x"})
	b.commit(rootOf(2))
	b.add(said{1, "y"})
	if e := b.commit(rootOf(3)); e != api.ErrArg {
		t.Errorf("Commit: %v", e)
	}
}

func TestP17_4GapsAreNoughts(t *testing.T) {
	r := api.Root{Seq: 4, Pages: 2, Next: 1}
	for _, more := range []int{0, 1, 100, 511, 512, 513, 1500, 4000} {
		for _, first := range []int{0, 1, 2, 3} {
			b := on(t, mostRoom, 4, r, append(twoPages(r), bytes.Repeat([]byte{0xee}, more)...))
			for range 6 {
				b.add(said{1, "x"})
			}
			for n := range first {
				b.drop(2 + n)
			}
			b.drop(6)
			if e := b.commit(rootOf(7)); e != api.OK {
				t.Errorf("Commit: %v", e)
			}
		}
	}
}

// A page may be in use behind the file's end: it counts, though it can't be read.
func TestP17_4PagesToTheLastNumber(t *testing.T) {
	r := api.Root{Seq: 4, Page: 65535, Pages: 65536, Next: 1}
	f := diskWith(mostRoom, "i", twoPages(r))
	p := opened(t, f, 4)
	if e := p.Use(65535); e != api.OK {
		t.Fatalf("Use: %v", e)
	}
	n, _ := p.Add(1, []byte("x"))
	if e := p.Commit(r); e != api.OK || p.Root() != (api.Root{Seq: 5, Page: 65535, Pages: 65536, Next: 1}) || len(bytesOf(f, "i")) != 3*pageBytes {
		t.Errorf("Commit: %v, Root = %v", e, p.Root())
	}
	p.Drop(65535)
	if e := p.Commit(rootOf(n)); e != api.OK || p.Root() != (api.Root{Seq: 6, Page: 2, Pages: 3, Next: 1}) {
		t.Errorf("Commit: %v, Root = %v", e, p.Root())
	}
}

// On a disk that has not room enough nothing is done; with room enough all of it is, however little more that is.
func TestP17_4Full(t *testing.T) {
	for room := 4 * pageBytes; room <= 8*pageBytes; room += 64 {
		b := fresh(t, room, 2)
		b.add(said{1, "x"})
		b.add(said{2, "y"})
		b.commit(rootOf(2))
		b.drop(3)
		b.commit(rootOf(2)) // 3 is free
		for _, s := range []string{"one", "two", "three", "four"} {
			b.add(said{3, s})
		}
		b.drop(4)
		b.drop(2)
		e := b.commit(rootOf(6))
		if (e == api.OK) != (room >= 7*pageBytes) {
			t.Errorf("Commit on a disk of %d: %v", room, e)
		}
		if e == api.OK {
			continue
		}
		// What could not be done then can be with less, or behind Back.
		b.commit(rootOf(5))
		b.drop(6)
		b.drop(5)
		if e := b.commit(rootOf(3)); e != api.OK || len(b.p.InUse()) != 1 {
			t.Errorf("Commit of a page in the place of another one: %v", e)
		}
		b.add(said{3, "a"})
		b.add(said{3, "b"})
		b.add(said{3, "c"})
		if b.commit(rootOf(4)) == api.OK {
			continue
		}
		b.back()
		b.add(said{4, "d"})
		if e := b.commit(rootOf(2)); e != api.OK {
			t.Errorf("Commit behind Back: %v", e)
		}
	}
}

// A file that ends within a page is as long behind a refusal as it was.
func TestP17_4FullWithinAPage(t *testing.T) {
	r := api.Root{Seq: 4, Pages: 2, Next: 1}
	for room := 1024 + 100; room <= 4*pageBytes; room += 4 {
		b := on(t, room, 2, r, append(twoPages(r), bytes.Repeat([]byte{0xee}, 100)...))
		b.add(said{1, "x"})
		b.add(said{1, "y"})
		if e := b.commit(rootOf(2)); (e == api.OK) != (room == 4*pageBytes) {
			t.Errorf("Commit on a disk of %d: %v", room, e)
		}
	}
}

// Other files' bytes count, too; and where more is used than there is room for, pages that are there already are written.
func TestP17_4FullOfOthers(t *testing.T) {
	b := fresh(t, 6*pageBytes, 2)
	b.add(said{1, "x"})
	b.commit(rootOf(2))
	b.drop(2)
	b.commit(rootOf(0))
	b.disk.Create("o")
	b.disk.Append("o", make([]byte, 3*pageBytes))
	b.add(said{1, "y"})
	n := b.add(said{1, "z"})
	if e := b.p.Commit(rootOf(n)); e != api.ErrFull || len(bytesOf(b.disk, "i")) != 3*pageBytes {
		t.Errorf("Commit: %v", e)
	}
	b.look()
	b.drop(n)
	if e := b.commit(rootOf(2)); e != api.OK {
		t.Errorf("Commit of what is there already: %v", e)
	}
}

// allKept says of any row of acts, up to 19 long, that it is kept as a whole: one more is a multiple of each number up to 20.
const allKept = 2432902008176640000 - 1

// before: a disk with a file of some pages, and what is to be committed: one page over a free one, one behind a gap, two more.
func before(t *testing.T) *both {
	b := fresh(t, mostRoom, 2)
	for i := range 5 {
		b.add(said{uint8(i), strings.Repeat("x", 100*i)})
	}
	b.commit(rootOf(4))
	b.drop(3)
	b.drop(5)
	b.commit(rootOf(4)) // in use: 2, 4, 6; free: 3, 5
	for i := range 6 {
		b.add(said{uint8(20 + i), strings.Repeat("y", 90*i)})
	}
	b.drop(5)
	b.drop(7)
	b.drop(8)
	b.drop(6) // pending: 3, 9, 10; dropped: 6
	return b
}

// The pages are written by rising numbers, the root behind them, and behind what made them sure; then it is made sure.
func TestP17_4InWhichOrder(t *testing.T) {
	first := before(t)
	r, _ := first.s.toWrite(rootOf(9))
	all := first.s.files(r)
	last := len(all) - 1
	seen, sure := 0, 0
	for at := 1; ; at++ {
		b := before(t)
		b.disk.Arm(at)
		e := b.p.Commit(rootOf(9))
		kept, _ := b.disk.Fail([]int{0, allKept})
		lost, _ := b.disk.Fail(nil)
		now, stays := bytesOf(kept, "i"), bytesOf(lost, "i")
		for seen < last && bytes.Equal(now, all[seen+1]) {
			seen++
		}
		if !bytes.Equal(now, all[seen]) && !bytes.HasPrefix(all[min(seen+1, last)], now) {
			t.Fatalf("%d: the file is none of those that it should be, %d pages written", at, seen)
		}
		for sure < last && bytes.Equal(stays, all[sure+1]) || sure+1 < last && bytes.Equal(stays, all[last-1]) {
			sure++
		}
		if !bytes.Equal(stays, all[sure]) || sure != 0 && sure < last-1 || seen == last && sure == 0 {
			t.Fatalf("%d: %d pages are sure, %d are written", at, sure, seen)
		}
		if e == api.OK {
			if seen != last || sure != last {
				t.Errorf("behind Commit %d of %d pages are written, %d sure", seen, last, sure)
			}
			return
		}
		if e != api.ErrDead {
			t.Fatalf("%d: Commit: %v", at, e)
		}
	}
}

// Where no gap is to be filled there is an act for each page, one for the root, and the two that make all sure.
func TestP17_4HowManyActs(t *testing.T) {
	b := fresh(t, mostRoom, 2)
	for i := range 6 {
		for range i {
			b.add(said{1, "x"})
		}
		acts := b.disk.Acts()
		b.commit(rootOf(0))
		if n := b.disk.Acts() - acts; n != i+3 {
			t.Errorf("%d acts, to write %d pages", n, i)
		}
		left, _ := b.disk.Fail(nil)
		if !bytes.Equal(bytesOf(left, "i"), b.s.file) {
			t.Errorf("behind Commit the file is not sure")
		}
	}
}

// The power may fail while what the full disk has no room for is taken back: nothing of it was done then either.
func TestP17_4FailsWhereItIsFull(t *testing.T) {
	for at := 1; ; at++ {
		b := fresh(t, 6*pageBytes, 2)
		b.add(said{1, "x"})
		b.add(said{2, "y"})
		b.add(said{3, "z"})
		b.commit(rootOf(2))
		b.drop(3)
		b.commit(rootOf(2))
		b.drop(2)
		for range 3 {
			b.add(said{4, "w"})
		}
		b.disk.Arm(at)
		e := b.p.Commit(rootOf(3))
		eachLeft(b.disk, 12, []int{0, 1, 300, 511, 512}, func(left *simfs.FS, cuts []int) {
			opensAs(t, left, cuts, b.s)
		})
		if e == api.ErrFull {
			if at < 4 {
				t.Errorf("%d acts alone", at-1)
			}
			return
		}
		if e != api.ErrDead {
			t.Fatalf("%d: Commit: %v", at, e)
		}
	}
}

func TestP17_4OnADeadDisk(t *testing.T) {
	b := fresh(t, mostRoom, 2)
	n := b.add(said{1, "x"})
	b.disk.Arm(1)
	b.disk.SyncDir()
	if e := b.p.Commit(rootOf(n)); e != api.ErrDead {
		t.Errorf("Commit: %v", e)
	}
	if e := b.p.Commit(rootOf(n + 1)); e != api.ErrArg {
		t.Errorf("Commit of no page: %v", e)
	}
}

func TestP17_5NobodyThere(t *testing.T) {
	for i, p := range []*pager.Pager{nil, new(pager.Pager)} {
		kind, body, e := p.Read(2)
		n, e2 := p.Add(1, []byte("x"))
		_, e3 := p.Add(1, make([]byte, 497))
		p.Back()
		for j, e := range []api.Errno{e, e2, e3, p.Use(2), p.Use(-1), p.Drop(2), p.Commit(rootOf(0)), p.Commit(rootOf(-1)), p.Commit(api.Root{})} {
			if e != api.ErrNil {
				t.Errorf("%d: call %d answers %v", i, j, e)
			}
		}
		if kind != 0 || len(body) != 0 || n != 0 || p.Root() != (api.Root{}) || len(p.Pending()) != 0 || len(p.InUse()) != 0 || p.Cached() != 0 {
			t.Errorf("%d: something is there", i)
		}
	}
}

func TestP17_5Back(t *testing.T) {
	b := fresh(t, mostRoom, 4)
	b.back()
	b.look()
	b.add(said{1, "x"})
	b.add(said{2, "y"})
	b.commit(rootOf(2))
	b.drop(2)
	b.drop(3)
	b.add(said{3, "z"})
	acts := b.disk.Acts()
	b.back()
	b.look()
	if b.disk.Acts() != acts {
		t.Errorf("Back acts on the disk")
	}
	b.drop(2)
	b.drop(3)
	b.back()
	if e := b.commit(rootOf(3)); e != api.OK || len(b.p.InUse()) != 2 {
		t.Errorf("Commit behind Back: %v, InUse = %d", e, b.p.InUse())
	}
}

// The cache has as many pages as it may: those that were read or written last. They can be read, whatever stands on the disk
// in their places, and no others.
func TestP17_5Cached(t *testing.T) {
	for _, cache := range []int{0, 1, 2, 3, 5, 9, mostCache} {
		b := fresh(t, mostRoom, cache)
		for i := range 8 {
			b.add(said{uint8(i), "x"})
		}
		if n := b.p.Cached(); n != 0 {
			t.Errorf("Cached = %d, of pages that are pending", n)
		}
		b.p.Commit(rootOf(2))
		b.cachedAre([]int{2, 3, 4, 5, 6, 7, 8, 9})
		for _, n := range []int{3, 8, 3, 2} {
			b.p.Read(n)
		}
		b.cachedAre([]int{4, 5, 6, 7, 9, 8, 3, 2})
		b.p.Drop(3)
		b.p.Read(3)
		b.p.Add(9, []byte("new")) // 10
		b.p.Read(10)
		b.cachedAre([]int{4, 5, 6, 7, 9, 8, 2, 3})
	}
}

// cachedAre: of a copy of the disk whose pages are all spoilt but the roots the pages can be read that are cached: the last ones
// of these.
func (b *both) cachedAre(l []int) {
	b.Helper()
	want := slices.Clone(l[len(l)-min(b.cache, len(l)):])
	if n := b.p.Cached(); n != len(want) {
		b.Errorf("Cached = %d, of %d at most", n, b.cache)
	}
	was := bytesOf(b.disk, "i")[2*pageBytes:]
	b.disk.Write("i", 2*pageBytes, bytes.Repeat([]byte{0xee}, len(was)))
	var got []int
	for _, n := range l { // in the order in which they were read or written, which so stays
		if _, _, e := b.p.Read(n); e == api.OK {
			got = append(got, n)
		}
	}
	b.disk.Write("i", 2*pageBytes, was)
	if !slices.Equal(got, want) {
		b.Errorf("with a cache of %d: %d can be read, not %d", b.cache, got, want)
	}
}

// What is free is not kept; what took its place is.
func TestP17_5CachedOfWhatIsFree(t *testing.T) {
	b := fresh(t, mostRoom, 8)
	b.add(said{1, "x"})
	b.add(said{2, "y"})
	b.commit(rootOf(2))
	b.drop(2)
	b.drop(3)
	b.commit(rootOf(0))
	if n := b.p.Cached(); n != 0 {
		t.Errorf("Cached = %d, none in use", n)
	}
	b.add(said{3, "z"})
	b.commit(rootOf(2))
	if n := b.p.Cached(); n != 1 {
		t.Errorf("Cached = %d, one in use", n)
	}
}

// What is handed in stays as it is, and nothing that was handed in or answered changes what a pager has.
func TestP17_5NothingShared(t *testing.T) {
	for _, cache := range []int{0, 8} {
		b := fresh(t, mostRoom, cache)
		room := []byte("abcdefgh")
		body := room[:3]
		for range 3 {
			n, _ := b.p.Add(1, body)
			b.s.pending[n] = said{1, "abc"}
		}
		if string(room) != "abcdefgh" {
			t.Errorf("Add changed what it was given: %q", room)
		}
		spoil(body)
		b.look()
		spoilAnswers := func() {
			for n := 2; n < 5; n++ {
				_, body, _ := b.p.Read(n)
				spoil(body)
			}
			spoil(b.p.Pending())
			spoil(b.p.InUse())
		}
		spoilAnswers()
		b.look()
		b.commit(rootOf(2))
		spoilAnswers()
		b.look()
		b.p.Add(1, []byte("d"))
		b.s.add(said{1, "d"})
		spoilAnswers()
		b.look()
	}
}

// eachLeft: the disk as each failure leaves it of which the numbers tell: the first so many acts of the file's row, and so many
// bytes of the next one.
func eachLeft(f *simfs.FS, acts int, bytes []int, yield func(left *simfs.FS, cuts []int)) {
	for k := range acts {
		for _, t := range bytes {
			cuts := []int{0, k, t}
			left, _ := f.Fail(cuts)
			yield(left, cuts)
		}
	}
}

// opensAs: Open of the disk tells one of these roots, and of that one each page in use reads as it did. Which one it is.
func opensAs(t *testing.T, f *simfs.FS, cuts []int, some ...*saidPager) *both {
	t.Helper()
	p, e := pager.Open(f, "i", 3)
	if e != api.OK {
		t.Fatalf("%d: Open: %v", cuts, e)
	}
	for _, s := range some {
		if p.Root() != s.root {
			continue
		}
		b := &both{t, f, p, newSaid(s.root, bytesOf(f, "i")), 3}
		for n, has := range s.used {
			b.use(n, has)
		}
		b.look()
		return b
	}
	t.Fatalf("%d: Root = %v, which is none that it may be", cuts, p.Root())
	return nil
}

// Wherever the power fails in a commit, and whatever is kept, to the byte.
func TestP17_6WhereverThePowerFails(t *testing.T) {
	var sizes []int
	for n := range 2*pageBytes + 1 { // the gap has two pages
		sizes = append(sizes, n)
	}
	if testing.Short() {
		sizes = []int{0, 1, 100, 511, 512}
	}
	olds, news := 0, 0
	for at := 1; ; at++ {
		b := before(t)
		old := b.s.copied()
		b.disk.Arm(at)
		e := b.p.Commit(rootOf(9))
		b.s.commit(rootOf(9), mostRoom)
		may := []*saidPager{old, b.s}
		if e == api.OK {
			may = may[1:]
		} else if e != api.ErrDead {
			t.Fatalf("%d: Commit: %v", at, e)
		}
		eachLeft(b.disk, 8, sizes, func(left *simfs.FS, cuts []int) {
			if opensAs(t, left, cuts, may...).s.root == old.root {
				olds++
			} else {
				news++
			}
		})
		if e == api.OK {
			break
		}
	}
	if olds == 0 || news == 0 {
		t.Errorf("%d old roots, %d new ones: nothing was tried", olds, news)
	}
}

// step: something that is asked for, at random.
func (b *both) step(c *chance) {
	b.Helper()
	switch c.below(8) {
	case 0, 1, 2:
		b.add(c.has())
	case 3, 4:
		b.drop(c.below(12))
	case 5:
		b.read(c.below(12) - 1)
	case 6:
		b.use(c.below(16)+b.s.root.Pages-1, said{}) // none that it may be, but one, and that is in use
	case 7:
		if c.below(6) == 0 {
			b.back()
		}
	}
}

// anyRoot: a root that may be committed, most times.
func (b *both) anyRoot(c *chance) api.Root {
	kept := append(b.s.kept(), 0)
	r := api.Root{Page: kept[c.below(len(kept))], Lsn: uint64(c.below(1 << 20)), Next: 1 + uint64(c.below(1<<20)), Shard: c.below(9), Tail: c.below(9)}
	if c.below(9) == 0 {
		r.Page = c.below(14) - 1
	}
	if c.below(20) == 0 {
		r.Next = 0
	}
	return r
}

// A long row of calls answers, each time, what the words say; disks are full now and then.
func TestP17AsTheWordsSay(t *testing.T) {
	full, done := 0, 0
	for seed := range uint64(60) {
		c := &chance{seed}
		b := fresh(t, (4+c.below(12))*pageBytes+c.below(3)*100, c.below(5))
		for range 120 {
			b.step(c)
			if c.below(5) == 0 {
				switch b.commit(b.anyRoot(c)) {
				case api.ErrFull:
					full++
				case api.OK:
					done++
				}
			}
			if c.below(20) == 0 {
				b.look()
			}
			if c.below(30) == 0 {
				b.reopen(c.below(5))
			}
			if t.Failed() {
				t.Fatalf("seed %d", seed)
			}
		}
	}
	if full < 50 || done < 500 {
		t.Errorf("%d times full, %d times not: too few to tell", full, done)
	}
}

// reopen: another pager on the same file, which is told which pages are in use.
func (b *both) reopen(cache int) {
	b.Helper()
	was := b.s
	b.p, b.s, b.cache = opened(b.T, b.disk, cache), newSaid(was.root, bytesOf(b.disk, "i")), cache
	for n, has := range was.used {
		b.use(n, has)
	}
	b.look()
}

// A long row of calls in which the power fails time and again in a commit, and what comes back goes on.
func TestP17_6TimeAndAgain(t *testing.T) {
	olds, news := 0, 0
	for seed := range uint64(60) {
		c := &chance{1000 + seed}
		b := fresh(t, (6+c.below(12))*pageBytes, c.below(5))
		for range 40 {
			for range c.below(12) {
				b.step(c)
			}
			r := b.anyRoot(c)
			old, after := b.s.copied(), b.s.copied()
			why := after.commit(r, b.disk.Room())
			b.disk.Arm(1 + c.below(10))
			e := b.p.Commit(r)
			may := []*saidPager{old, after}
			switch {
			case e == api.OK && why == api.OK:
				may = may[1:]
			case e == api.ErrFull && why == api.ErrFull, e == api.ErrArg && why == api.ErrArg:
				may = may[:1]
			case e != api.ErrDead || why == api.ErrArg:
				t.Fatalf("seed %d: Commit = %v, not %v", seed, e, why)
			}
			cuts := []int{0, c.below(12), c.below(513)}
			left, _ := b.disk.Fail(cuts)
			b = opensAs(t, left, cuts, may...)
			if e == api.ErrDead && b.s.root == old.root {
				olds++
			} else if e == api.ErrDead {
				news++
			}
			if t.Failed() {
				t.Fatalf("seed %d", seed)
			}
		}
	}
	if olds < 100 || news < 50 {
		t.Errorf("%d old roots, %d new ones: too few to tell", olds, news)
	}
}

// Within a commit neither a page in use nor the newest root's is written, be it dropped or not.
func TestP17_6NoPageInUseIsWritten(t *testing.T) {
	for at := 1; at < 12; at++ {
		b := before(t)
		was := bytesOf(b.disk, "i")
		b.disk.Arm(at)
		b.p.Commit(rootOf(9))
		left, _ := b.disk.Fail([]int{0, allKept})
		now := bytesOf(left, "i")
		for n := range b.s.used {
			if !bytes.Equal(was[n*pageBytes:(n+1)*pageBytes], now[n*pageBytes:(n+1)*pageBytes]) {
				t.Errorf("%d: page %d, which is in use, was written", at, n)
			}
		}
		place := int(b.s.root.Seq%2) * pageBytes
		if !bytes.Equal(was[place:place+pageBytes], now[place:place+pageBytes]) {
			t.Errorf("%d: the old root was written over", at)
		}
	}
}
