package simfs

import (
	"bytes"
	"maps"
	"strings"

	"stook/api"
)

// Create makes an empty file of that name.
func (f *FS) Create(name string) api.Errno {
	if e := f.refusal(); e != api.OK {
		return e
	}
	if !isName(name) {
		return api.ErrArg
	}
	if _, there := f.names[name]; there {
		return api.ErrTwice
	}
	if len(f.names) >= api.MaxFiles {
		return api.ErrLimit
	}
	number := f.next
	f.next++
	f.files[number] = file{}
	return f.doToNames(naming{come: name, number: number})
}

// Append lays the bytes behind the file's.
func (f *FS) Append(name string, b []byte) api.Errno {
	number, e := f.find(name)
	if e != api.OK {
		return e
	}
	return f.lay(number, len(f.files[number].now), b)
}

// Write lays the bytes in the place of the file's from at on.
func (f *FS) Write(name string, at int, b []byte) api.Errno {
	number, e := f.findPlace(name, at)
	if e != api.OK {
		return e
	}
	return f.lay(number, at, b)
}

// Cut leaves the file its first size bytes.
func (f *FS) Cut(name string, size int) api.Errno {
	number, e := f.findPlace(name, size)
	if e != api.OK {
		return e
	}
	return f.doToFile(number, change{at: size, cut: true})
}

// Rename gives the file of the first name the second one; a file that had that has none any more.
func (f *FS) Rename(from, to string) api.Errno {
	number, e := f.find(from)
	if e != api.OK {
		return e
	}
	if !isName(to) {
		return api.ErrArg
	}
	return f.doToNames(naming{gone: from, come: to, number: number})
}

// Remove takes the name out of the directory.
func (f *FS) Remove(name string) api.Errno {
	if _, e := f.find(name); e != api.OK {
		return e
	}
	return f.doToNames(naming{gone: name})
}

// Sync makes all acts of the file's row sure.
func (f *FS) Sync(name string) api.Errno {
	number, e := f.find(name)
	if e != api.OK {
		return e
	}
	if e := f.act(); e != api.OK {
		return e
	}
	f.files[number] = f.files[number].synced()
	return api.OK
}

// SyncDir makes all acts of the directory's row sure.
func (f *FS) SyncDir() api.Errno {
	if e := f.refusal(); e != api.OK {
		return e
	}
	if e := f.act(); e != api.OK {
		return e
	}
	f.sure, f.row = maps.Clone(f.names), nil
	// No failure brings a file back any more that has no name now.
	named := make(map[int]file, len(f.names))
	for _, number := range f.names {
		named[number] = f.files[number]
	}
	f.files = named
	return api.OK
}

// Arm says that the power fails at the n-th act from now on; at none, if n is 0.
func (f *FS) Arm(n int) api.Errno {
	if e := f.refusal(); e != api.OK {
		return e
	}
	if n < 0 {
		return api.ErrArg
	}
	f.ahead = n
	return api.OK
}

// findPlace answers the number of the file of that name, if at is a place in it or its end.
func (f *FS) findPlace(name string, at int) (int, api.Errno) {
	number, e := f.find(name)
	if e != api.OK {
		return 0, e
	}
	if at < 0 || at > len(f.files[number].now) {
		return 0, api.ErrArg
	}
	return number, api.OK
}

// lay lays the bytes into the file from at on, if there is room for what it grows by.
func (f *FS) lay(number, at int, b []byte) api.Errno {
	// In this order no sum is more than the greater of its parts: of b's length nothing is known.
	grows := at - len(f.files[number].now) + len(b)
	if grows > 0 && grows > f.room-f.Used() {
		return api.ErrFull
	}
	return f.doToFile(number, change{at: at, bytes: bytes.Clone(b)})
}

// doToFile does an act of that file's.
func (f *FS) doToFile(number int, c change) api.Errno {
	f.files[number] = f.files[number].changed(c)
	return f.act()
}

// doToNames does an act of the directory's.
func (f *FS) doToNames(a naming) api.Errno {
	// The names that were handed in may be pieces of a great text, which would be kept with them.
	a.gone, a.come = strings.Clone(a.gone), strings.Clone(a.come)
	f.names.do(a)
	f.row = append(f.row, a)
	return f.act()
}

// act counts an act; ErrDead, if the power fails at it.
func (f *FS) act() api.Errno {
	f.acts++
	if f.ahead == 0 {
		return api.OK
	}
	f.ahead--
	if f.ahead > 0 {
		return api.OK
	}
	f.dead = true
	return api.ErrDead
}
