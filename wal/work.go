package wal

import (
	"slices"

	"turnpike/api"
)

// failure is the error of an operation of the disk that failed: it is thrown there, and caught at the faces.
type failure api.Errno

func must(e api.Errno) {
	if e != api.OK {
		panic(failure(e))
	}
}

// caught: the error of a failure that was thrown; OK, if nothing was.
func caught(thrown any) api.Errno {
	switch x := thrown.(type) {
	case nil:
		return api.OK
	case failure:
		return api.Errno(x)
	}
	panic(thrown) // not the disk's: a fault of this package must not pass for an answer
}

// fatal: whether a log is dead by that error. (What found no room is just not there.)
func fatal(e api.Errno) bool { return e != api.ErrFull && e != api.ErrLong }

// load takes up the segments that belong to the log, and rids the disk of what does not.
func (l *Log) load() {
	// A disk that is down tells no names, but has its files nonetheless: none of them can be read.
	if l.disk.Down() {
		must(api.ErrDown)
	}
	torn, others := l.read()
	if torn {
		s := l.last()
		l.cut(s, s.size())
	}
	if k := len(l.segments) - 1; k > 0 && len(l.segments[k].records) == 0 {
		others = append(others, l.segments[k].name())
		slices.Sort(others)
		l.segments = l.segments[:k]
	}
	l.remove(others)
	l.settle(others)
}

// read: the segments that belong to the log are its segments then; whether there is more in the last of them than its head; and the names of the others.
func (l *Log) read() (torn bool, others []string) {
	for _, name := range l.disk.Names() {
		first, is := numberOf(name)
		if !is {
			continue
		}
		if len(l.segments) > 0 && (torn || first != l.Next()) {
			others = append(others, name)
			continue
		}
		b, e := l.disk.Read(name)
		must(e)
		s := segmentOf(first, b)
		torn = s.size() < len(b)
		l.segments = append(l.segments, s)
	}
	return torn, others
}

// room: the segment that a frame of so many bytes goes to: a new one, if there is none, or the last one is ended by it.
func (l *Log) room(frame int) *segment {
	s := l.last()
	if s != nil && (len(s.records) == 0 || s.size()+frame <= l.limit) {
		return s
	}
	if s != nil {
		must(l.disk.Sync(s.name()))
	}
	made := &segment{first: l.Next()}
	must(l.disk.Create(made.name()))
	l.segments = append(l.segments, made)
	must(l.disk.SyncDir())
	return made
}

// drop changes what the log tells only when nothing can fail any more.
func (l *Log) drop(from number) {
	if len(l.segments) == 0 {
		return
	}
	left := max(l.find(from.noneBelow), 1)
	names := namesOf(l.segments[left:])
	slices.Reverse(names)
	l.remove(names)
	s := l.segments[left-1]
	n := int(from) - s.first
	l.cut(s, s.sizeOf(n))
	l.settle(names)
	s.records = slices.Clone(s.records[:n])
	l.segments = slices.Clone(l.segments[:left])
}

// trim changes what the log tells only when nothing can fail any more.
func (l *Log) trim(before number) {
	gone := max(min(l.find(before.notAllBelow), len(l.segments)-1), 0)
	names := namesOf(l.segments[:gone])
	l.remove(names)
	l.settle(names)
	l.segments = slices.Clone(l.segments[gone:])
}

// find: the place of the first segment of which that is so; behind the last one, if it is of none.
func (l *Log) find(is func(*segment) bool) int {
	k := slices.IndexFunc(l.segments, is)
	if k < 0 {
		return len(l.segments)
	}
	return k
}

func (l *Log) last() *segment {
	if l == nil || len(l.segments) == 0 {
		return nil
	}
	return l.segments[len(l.segments)-1]
}

func (l *Log) remove(names []string) {
	for _, name := range names {
		must(l.disk.Remove(name))
	}
}

// settle lets the removal of these files last.
func (l *Log) settle(removed []string) {
	if len(removed) > 0 {
		must(l.disk.SyncDir())
	}
}

func (l *Log) cut(s *segment, n int) {
	must(l.disk.Cut(s.name(), n))
	must(l.disk.Sync(s.name()))
}

func namesOf(l []*segment) []string {
	names := make([]string, 0, len(l))
	for _, s := range l {
		names = append(names, s.name())
	}
	return names
}
