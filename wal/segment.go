package wal

import (
	"strconv"
	"strings"

	"turnpike/sum"
)

const (
	begin  = "log."
	digits = 8
)

// segment is what a file of the log has.
type segment struct {
	first   int
	records []record
}

// record is a payload, and the place behind its frame in the segment.
type record struct {
	payload []byte
	end     int
}

// segmentOf: the segment of that number that the head of b is.
func segmentOf(first int, b []byte) *segment {
	s := &segment{first: first}
	for end, p := range sum.Each(b) {
		s.add(p, end)
	}
	return s
}

func (s *segment) add(payload []byte, end int) { s.records = append(s.records, record{payload, end}) }

func (s *segment) next() int { return s.first + len(s.records) }

func (s *segment) size() int { return s.sizeOf(len(s.records)) }

// sizeOf: how many bytes the frames of the first n records have.
func (s *segment) sizeOf(n int) int {
	if n == 0 {
		return 0
	}
	return s.records[n-1].end
}

func (s *segment) name() string {
	n := strconv.Itoa(s.first)
	return begin + strings.Repeat("0", digits-len(n)) + n
}

// numberOf: the number in a segment's name; false, if the name is none's.
func numberOf(name string) (int, bool) {
	rest, is := strings.CutPrefix(name, begin)
	if !is || len(rest) != digits {
		return 0, false
	}
	n := 0
	for i := range len(rest) {
		c := rest[i]
		if c < '0' || c > '9' {
			return 0, false
		}
		n = 10*n + int(c-'0')
	}
	return n, true
}

// number is a record's. By its methods segments are found.
type number int

// isIn: the segment has that record.
func (n number) isIn(s *segment) bool { return s.first <= int(n) && int(n) < s.next() }

// noneBelow: the segment has no record below that number.
func (n number) noneBelow(s *segment) bool { return s.first >= int(n) }

// notAllBelow: the segment has records that are not below that number.
func (n number) notAllBelow(s *segment) bool { return s.next() > int(n) }
