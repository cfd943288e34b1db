package simfs

import (
	"bytes"
	"maps"

	"stook/api"
)

// blockSize is how many bytes of what stands there are written together, or are not.
const blockSize = 512

// Fail answers another disk: what a failure leaves of this one, by these numbers.
func (f *FS) Fail(cuts []int) (*FS, api.Errno) {
	if !f.made() {
		return nil, api.ErrNil
	}
	c := &chances{cuts}
	names := maps.Clone(f.sure)
	for _, a := range f.row[:c.of(len(f.row)+1)] {
		names.do(a)
	}
	left := empty(f.room)
	for number, name := range names.rising() {
		left.files[number] = sound(f.files[names[name]].left(c))
		left.names[name] = number
	}
	left.next = len(left.files)
	left.sure = maps.Clone(left.names)
	return left, api.OK
}

// left answers what a failure leaves of the file.
func (f file) left(c *chances) []byte {
	b := bytes.Clone(f.sure)
	k := c.of(len(f.row) + 1)
	for _, done := range f.row[:k] {
		b = done.do(b)
	}
	if k == len(f.row) || f.row[k].cut {
		return b
	}
	return f.row[k].begun(b, c.of(len(f.row[k].bytes)+1)).do(b)
}

// begun answers what of the act is done to b, if it ends behind t bytes: of what stands in b blocks are written whole, or are
// not.
func (c change) begun(b []byte, t int) change {
	end := c.at + t
	if end < len(b) {
		end -= end % blockSize
	}
	return change{at: c.at, bytes: c.bytes[:max(end-c.at, 0)]}
}

// chances are the numbers that are not taken yet.
type chances struct{ cuts []int }

// of takes the next number, of so many; 0, if there is none.
func (c *chances) of(many int) int {
	if len(c.cuts) == 0 {
		return 0
	}
	first := c.cuts[0]
	c.cuts = c.cuts[1:]
	return int(uint64(first) % uint64(many))
}
