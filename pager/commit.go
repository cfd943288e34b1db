package pager

import (
	"stook/api"
	"stook/page"
	"stook/root"
)

// Commit writes all that is pending, and then the root, which is the newest one from then on.
func (p *Pager) Commit(r api.Root) api.Errno {
	if !p.made() {
		return api.ErrNil
	}
	if r.Page != 0 && !p.isNeeded(r.Page) {
		return api.ErrArg
	}
	r.Seq, r.Pages = p.root.Seq+1, p.pages()
	b, e := root.Put(r)
	if e != api.OK {
		return e
	}
	if e := p.write(root.Place(r), b); e != api.OK {
		return e
	}
	p.settle(r)
	return api.OK
}

// pages answers how many pages the next root counts.
func (p *Pager) pages() int {
	most := firstPage - 1
	for n := range p.used {
		if !p.dropped.has(n) {
			most = max(most, n)
		}
	}
	for n := range p.pending {
		most = max(most, n)
	}
	return most + 1
}

// write writes all that is pending, and then the root's page, which is b. If the disk has no room, the file is as long as it
// was: the root has its place in it already, so that by then nothing but free pages was written.
func (p *Pager) write(rootAt int, b []byte) (e api.Errno) {
	size, e := p.disk.Size(p.name)
	if e != api.OK {
		return e
	}
	defer func() {
		if e != api.ErrFull {
			return
		}
		if why := p.disk.Cut(p.name, size); why != api.OK {
			e = why
		}
	}()
	if e = p.writePending(); e != api.OK {
		return e
	}
	// The root must not be there ahead of what it tells of.
	if e = p.disk.Sync(p.name); e != api.OK {
		return e
	}
	if e = p.disk.Write(p.name, place(rootAt), b); e != api.OK {
		return e
	}
	return p.disk.Sync(p.name)
}

// writePending writes all pages that are pending, by rising numbers.
func (p *Pager) writePending() api.Errno {
	for _, n := range p.Pending() {
		c := p.pending[n]
		b, e := page.Put(n, c.kind, c.body)
		if e != api.OK {
			return e
		}
		if e := p.fill(place(n)); e != api.OK {
			return e
		}
		if e := p.disk.Write(p.name, place(n), b); e != api.OK {
			return e
		}
	}
	return api.OK
}

// fill lays noughts behind the file's end up to the place, if that lies behind it.
func (p *Pager) fill(at int) api.Errno {
	size, e := p.disk.Size(p.name)
	if e != api.OK {
		return e
	}
	if at <= size {
		return api.OK
	}
	return p.disk.Append(p.name, make([]byte, at-size))
}

// settle has the root as the newest one: what was pending is in use, and what was dropped is free.
func (p *Pager) settle(r api.Root) {
	for n := range p.dropped {
		delete(p.used, n)
		p.hand.forget(n)
	}
	for _, n := range p.Pending() {
		p.used[n] = struct{}{}
		p.hand.keep(n, p.pending[n])
	}
	p.root = r
	p.begin()
}
