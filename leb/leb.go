// Package leb is layer 1: numbers of unlike lengths, and counted rows and lists. See shared/doc/01-leb.md.
package leb

import "stook/api"

const (
	groupBits = 7
	groupMask = 1<<groupBits - 1
	moreBit   = 1 << groupBits

	// lastPlace is the tenth byte's place: nine groups hold 63 bits, so one bit is left for it.
	lastPlace = 9
	lastMost  = 1
)

// Put tells the number's bytes.
func Put(n uint64) []byte {
	b := make([]byte, 0, Len(n))
	for ; n >= moreBit; n >>= groupBits {
		b = append(b, byte(n)|moreBit)
	}
	return append(b, byte(n))
}

// Len tells how many bytes the number has.
func Len(n uint64) int {
	size := 1
	for n >>= groupBits; n > 0; n >>= groupBits {
		size++
	}
	return size
}

// Get tells the number whose bytes begin at that place, and the place behind them.
func Get(b []byte, at int) (n uint64, next int, e api.Errno) {
	if at < 0 || at > len(b) {
		return 0, 0, api.ErrArg
	}
	size := 0
groups:
	for i, c := range b[at:] {
		n |= uint64(c&groupMask) << (groupBits * i)
		switch {
		case i == lastPlace && c > lastMost, i > 0 && c == 0:
			// A number has one form alone: none that is longer than it need be, none that leaves 64 bits.
			return 0, 0, api.ErrForm
		case c < moreBit:
			size = i + 1
			break groups
		}
	}
	if size == 0 {
		return 0, 0, api.ErrShort
	}
	return n, at + size, api.OK
}

// PutRow tells the counted row.
func PutRow(b []byte) []byte {
	return join(Put(uint64(len(b))), b)
}

// GetRow tells the counted row at that place, of at most so many bytes, and the place behind it.
func GetRow(b []byte, at, most int) (row []byte, next int, e api.Errno) {
	count, next, e := getCount(b, at, most)
	if e != api.OK {
		return nil, 0, e
	}
	// Held against what is left, not added to the place: a hostile count would leave what an int holds.
	if count > len(b)-next {
		return nil, 0, api.ErrShort
	}
	end := next + count
	return join(b[next:end]), end, api.OK
}

// PutList tells the counted list.
func PutList(l []uint64) []byte {
	rows := make([][]byte, 0, len(l)+1)
	rows = append(rows, Put(uint64(len(l))))
	for _, n := range l {
		rows = append(rows, Put(n))
	}
	return join(rows...)
}

// GetList tells the counted list at that place, of at most so many numbers, and the place behind it.
func GetList(b []byte, at, most int) (l []uint64, next int, e api.Errno) {
	count, next, e := getCount(b, at, most)
	if e != api.OK {
		return nil, 0, e
	}
	// Each number takes a byte at least, so a hostile count gets no more room than the bytes can fill.
	l = make([]uint64, 0, min(count, len(b)-next))
	for range count {
		var n uint64
		n, next, e = Get(b, next)
		if e != api.OK {
			return nil, 0, e
		}
		l = append(l, n)
	}
	return l, next, api.OK
}

// getCount tells a count of at most so many, and the place behind it.
func getCount(b []byte, at, most int) (count, next int, e api.Errno) {
	n, next, e := Get(b, at)
	if e != api.OK {
		return 0, 0, e
	}
	// A most below 0 is asked for by itself: as a uint64 it would be a great one.
	if most < 0 || n > uint64(most) {
		return 0, 0, api.ErrLimit
	}
	return int(n), next, api.OK
}

// join lays the rows one behind the other, in memory of their own.
func join(rows ...[]byte) []byte {
	size := 0
	for _, row := range rows {
		size += len(row)
	}
	all := make([]byte, 0, size)
	for _, row := range rows {
		all = append(all, row...)
	}
	return all
}
