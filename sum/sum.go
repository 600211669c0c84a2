// Package sum is layer 1: see shared/doc/01-sum.md.
package sum

import (
	"iter"

	"turnpike/api"
)

// MaxRecord: so many bytes a payload has at most.
const MaxRecord = 1 << 17

// ahead: so many bytes of a frame stand ahead of its payload, half of them the length, half the sum.
const ahead = 8

// halves has for each half of a byte what the sum's rule makes of it in four turns: a byte then takes two look-ups instead of eight turns, and the table stays short.
var halves = [16]uint32{
	0x00000000, 0x105ec76f, 0x20bd8ede, 0x30e349b1,
	0x417b1dbc, 0x5125dad3, 0x61c69362, 0x7198540d,
	0x82f63b78, 0x92a8fc17, 0xa24bb5a6, 0xb21572c9,
	0xc38d26c4, 0xd3d3e1ab, 0xe330a81a, 0xf36e6f75,
}

// Crc: P1.1.
func Crc(p []byte) uint32 { return More(0, p) }

// More: P1.1.
func More(c uint32, p []byte) uint32 {
	c = ^c
	for _, x := range p {
		c ^= uint32(x)
		c = c>>4 ^ halves[c&15]
		c = c>>4 ^ halves[c&15]
	}
	return ^c
}

// Frame: P1.2.
func Frame(p []byte) ([]byte, api.Errno) {
	if len(p) > MaxRecord {
		return nil, api.ErrLong
	}
	size := split(uint32(len(p)))
	check := checkOf(size, p)
	f := make([]byte, 0, ahead+len(p))
	f = append(f, size[:]...)
	f = append(f, check[:]...)
	return append(f, p...), api.OK
}

// Next: P1.3.
func Next(b []byte) ([]byte, int, api.Errno) {
	if len(b) < ahead {
		return nil, 0, api.ErrTorn
	}
	size, check, rest := [4]byte(b[:4]), [4]byte(b[4:ahead]), b[ahead:]
	n := join(size)
	// The bound comes first: a longer one is no record's even if its sum is right, and within it n fits an int of any width.
	if n > MaxRecord || int(n) > len(rest) {
		return nil, 0, api.ErrTorn
	}
	p := rest[:n]
	if checkOf(size, p) != check {
		return nil, 0, api.ErrTorn
	}
	return fresh(p), ahead + len(p), api.OK
}

// Scan: P1.4.
func Scan(b []byte) ([][]byte, int) {
	var payloads [][]byte
	end := 0
	for at, p := range Each(b) {
		payloads, end = append(payloads, p), at
	}
	return payloads, end
}

// Each: P1.4.
func Each(b []byte) iter.Seq2[int, []byte] {
	// The sequence may outlive the call, and what is handed in is not kept: it goes over a copy.
	b = fresh(b)
	return func(yield func(int, []byte) bool) {
		for at := 0; ; {
			p, n, e := Next(b[at:])
			if e != api.OK {
				return
			}
			at += n
			if !yield(at, p) {
				return
			}
		}
	}
}

// checkOf: the four bytes of a frame's sum, which is over the length too, so that a length alone is never taken at its word.
func checkOf(size [4]byte, p []byte) [4]byte { return split(More(Crc(size[:]), p)) }

func split(n uint32) [4]byte { return [4]byte{byte(n >> 24), byte(n >> 16), byte(n >> 8), byte(n)} }

func join(b [4]byte) uint32 {
	return uint32(b[0])<<24 | uint32(b[1])<<16 | uint32(b[2])<<8 | uint32(b[3])
}

func fresh(p []byte) []byte {
	c := make([]byte, len(p))
	copy(c, p)
	return c
}
