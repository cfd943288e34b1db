package simfs

import (
	"bytes"
	"maps"
	"slices"

	"stook/api"
)

// directory tells of each name the number of the file that has it.
type directory map[string]int

// naming is an act of the directory's: behind it gone is no name any more, and the file has the name come. Either may be
// empty, which no name is.
type naming struct {
	gone, come string
	number     int
}

// file is a row of bytes: as it is sure, its acts that are not, and as it is behind these. What a row has stays as it is, so
// that disks may share it as far as it goes; bytes belong to one disk alone.
type file struct {
	sure []byte
	row  []change
	now  []byte
}

// change is an act of a file's: these bytes come to stand from the place on, or it is cut there.
type change struct {
	at    int
	bytes []byte
	cut   bool
}

// do does the act.
func (d directory) do(a naming) {
	delete(d, a.gone)
	if a.come != "" {
		d[a.come] = a.number
	}
}

// rising answers all names, rising.
func (d directory) rising() []string {
	return slices.Sorted(maps.Keys(d))
}

// isName answers whether a file may have that name.
func isName(name string) bool {
	if len(name) < 1 || len(name) > api.MaxName {
		return false
	}
	for i := range len(name) {
		if !isNameByte(name[i]) {
			return false
		}
	}
	return true
}

// isNameByte answers whether the byte may stand in a name.
func isNameByte(c byte) bool {
	return 'a' <= c && c <= 'z' || '0' <= c && c <= '9' || c == '.' || c == '-'
}

// sound answers a file that is these bytes, for sure.
func sound(b []byte) file {
	// What is sure stays when the file is written, so it shares nothing with what the file is now.
	return file{sure: b, now: bytes.Clone(b)}
}

// changed answers the file behind one act more, which is not sure.
func (f file) changed(c change) file {
	return file{sure: f.sure, row: append(f.row, c), now: c.do(f.now)}
}

// synced answers the file with all of its row sure. To do the row's acts once more costs as much as they did, while to copy
// the file would cost as much as all of it.
func (f file) synced() file {
	for _, c := range f.row {
		f.sure = c.do(f.sure)
	}
	f.row = nil
	return f
}

// copied answers a file that goes its own way: its row has no room behind its end, so that it is copied when it goes on.
func (f file) copied() file {
	return file{sure: bytes.Clone(f.sure), row: slices.Clip(f.row), now: bytes.Clone(f.now)}
}

// do does the act to these bytes, and answers what they are behind it. They may have been written over.
func (c change) do(b []byte) []byte {
	if c.cut {
		return b[:c.at]
	}
	n := copy(b[c.at:], c.bytes)
	return append(b, c.bytes[n:]...)
}
