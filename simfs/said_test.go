package simfs_test

import (
	"maps"
	"math/big"
	"regexp"
	"slices"

	"stook/api"
	"stook/simfs"
)

// What the chapter's words say, clause by clause: a disk that keeps whatever its directory and its files were since they were
// last made sure, where the program keeps what was done to them.

const (
	mostNames = 64
	mostRoom  = 1048576
	block     = 512
)

var nameForm = regexp.MustCompile(`\A[a-z0-9.-]{1,32}\z`)

// act: one of the calls that act, and what it is given.
type act struct {
	what     string
	name, to string
	at       int
	b        string
}

func create(name string) act                   { return act{what: "create", name: name} }
func rename(from, to string) act               { return act{what: "rename", name: from, to: to} }
func remove(name string) act                   { return act{what: "remove", name: name} }
func appends(name, b string) act               { return act{what: "append", name: name, b: b} }
func writes(name string, at int, b string) act { return act{what: "write", name: name, at: at, b: b} }
func cut(name string, size int) act            { return act{what: "cut", name: name, at: size} }
func syncs(name string) act                    { return act{what: "sync", name: name} }
func syncDir() act                             { return act{what: "syncdir"} }

// do: the act on the disk.
func (a act) do(f *simfs.FS) api.Errno {
	switch a.what {
	case "create":
		return f.Create(a.name)
	case "rename":
		return f.Rename(a.name, a.to)
	case "remove":
		return f.Remove(a.name)
	case "append":
		return f.Append(a.name, []byte(a.b))
	case "write":
		return f.Write(a.name, a.at, []byte(a.b))
	case "cut":
		return f.Cut(a.name, a.at)
	case "sync":
		return f.Sync(a.name)
	}
	return f.SyncDir()
}

// saidFile: whatever a file was since its last Sync, the sure one first, and the acts between.
type saidFile struct {
	was  []string
	acts []act
}

func (s *saidFile) now() string { return s.was[len(s.was)-1] }

// said: a disk, and whatever its directory was since the last SyncDir, the sure one first. The power fails at the act with the
// number armed, from 1 on, if that is not 0.
type said struct {
	room, acts, armed int
	dead              bool
	dirs              []map[string]*saidFile
}

func newSaid(room int) *said { return &said{room: room, dirs: []map[string]*saidFile{{}}} }

func (s *said) dir() map[string]*saidFile { return s.dirs[len(s.dirs)-1] }

func (s *said) names() []string { return slices.Sorted(maps.Keys(s.dir())) }

func (s *said) used() int {
	n := 0
	for _, file := range s.dir() {
		n += len(file.now())
	}
	return n
}

func (s *said) arm(n int) {
	s.armed = 0
	if n > 0 {
		s.armed = s.acts + n
	}
}

// refuses: why the disk refuses the act, but for the power.
func (s *said) refuses(a act) api.Errno {
	file, there := s.dir()[a.name]
	switch {
	case a.what == "syncdir":
		return api.OK
	case a.what == "create" && !nameForm.MatchString(a.name):
		return api.ErrArg
	case a.what == "create" && there:
		return api.ErrTwice
	case a.what == "create" && len(s.dir()) == mostNames:
		return api.ErrLimit
	case a.what == "create":
		return api.OK
	case !there:
		return api.ErrNone
	case a.what == "rename" && !nameForm.MatchString(a.to):
		return api.ErrArg
	case a.what == "append" && a.b != "" && len(a.b)+s.used() > s.room:
		return api.ErrFull
	case (a.what == "write" || a.what == "cut") && (a.at < 0 || a.at > len(file.now())):
		return api.ErrArg
	case a.what == "write" && a.at+len(a.b) > len(file.now()) && s.used()-len(file.now())+a.at+len(a.b) > s.room:
		return api.ErrFull
	}
	return api.OK
}

// over: the text with this one in the place of what stands from at on.
func over(text string, at int, b string) string {
	return text[:at] + b + text[min(at+len(b), len(text)):]
}

// behind: the text behind the act.
func behind(text string, a act) string {
	switch a.what {
	case "append":
		return text + a.b
	case "write":
		return over(text, a.at, a.b)
	}
	return text[:a.at]
}

// do: the act, and what it answers.
func (s *said) do(a act) api.Errno {
	if s.dead {
		return api.ErrDead
	}
	if e := s.refuses(a); e != api.OK {
		return e
	}
	s.acts++
	s.dead = s.acts == s.armed
	file, dir := s.dir()[a.name], maps.Clone(s.dir())
	switch a.what {
	case "syncdir":
		if !s.dead {
			s.dirs = s.dirs[len(s.dirs)-1:]
		}
	case "sync":
		if !s.dead {
			file.was, file.acts = file.was[len(file.was)-1:], nil
		}
	case "create":
		dir[a.name] = &saidFile{was: []string{""}}
		s.dirs = append(s.dirs, dir)
	case "rename":
		delete(dir, a.name)
		dir[a.to] = file
		s.dirs = append(s.dirs, dir)
	case "remove":
		delete(dir, a.name)
		s.dirs = append(s.dirs, dir)
	default:
		file.was, file.acts = append(file.was, behind(file.now(), a)), append(file.acts, a)
	}
	if s.dead {
		return api.ErrDead
	}
	return api.OK
}

// copied: a disk that goes its own way.
func (s *said) copied() *said {
	other := *s
	other.dirs = nil
	files := map[*saidFile]*saidFile{}
	for _, dir := range s.dirs {
		own := map[string]*saidFile{}
		for name, file := range dir {
			if files[file] == nil {
				files[file] = &saidFile{slices.Clone(file.was), slices.Clone(file.acts)}
			}
			own[name] = files[file]
		}
		other.dirs = append(other.dirs, own)
	}
	return &other
}

// rest: what is left of the number, as an unsigned one of 64 bits, divided by many.
func rest(n, many int) int {
	unsigned := big.NewInt(int64(n))
	if n < 0 {
		unsigned.Add(unsigned, new(big.Int).Lsh(big.NewInt(1), 64))
	}
	return int(unsigned.Mod(unsigned, big.NewInt(int64(many))).Int64())
}

// fail: what a failure leaves, and of how many each number was taken.
func (s *said) fail(cuts []int) (left *said, many []int) {
	take := func(of int) int {
		many = append(many, of)
		if len(many) > len(cuts) {
			return 0
		}
		return rest(cuts[len(many)-1], of)
	}
	left = newSaid(s.room)
	dir := s.dirs[take(len(s.dirs))]
	for _, name := range slices.Sorted(maps.Keys(dir)) {
		left.dirs[0][name] = &saidFile{was: []string{dir[name].left(take)}}
	}
	return left, many
}

// left: what a failure leaves of the file.
func (s *saidFile) left(take func(of int) int) string {
	k := take(len(s.was))
	text := s.was[k]
	if k == len(s.acts) || s.acts[k].what == "cut" {
		return text
	}
	b, at := s.acts[k].b, s.acts[k].at
	if s.acts[k].what == "append" {
		at = len(text)
	}
	end := at + take(len(b)+1)
	if end < len(text) {
		for end%block != 0 {
			end--
		}
	}
	if end <= at {
		return text
	}
	return over(text, at, b[:end-at])
}
