package obj

import (
	"math"

	"candling/api"
)

// Sum returns the checksum of bytes.
func Sum(b []byte) uint32 {
	register := ^uint32(0)
	for _, c := range b {
		register ^= uint32(c)
		for range 8 {
			register = shifted(register)
		}
	}
	return ^register
}

// shifted returns the register of a checksum after one of the eight shifts of a byte.
func shifted(register uint32) uint32 {
	const feedback = 0xEDB88320
	if register&1 == 1 {
		return register>>1 ^ feedback
	}
	return register >> 1
}

// A number has seven of its bits in each byte; the top bit says that more bytes follow.
const (
	digitBits = 7
	more      = 1 << digitBits
)

// writer appends bytes.
type writer struct{ b []byte }

func (w *writer) bytes(b ...byte) { w.b = append(w.b, b...) }

func (w *writer) number(n int) {
	for n >= more {
		w.bytes(byte(n) | more)
		n >>= digitBits
	}
	w.bytes(byte(n))
}

func (w *writer) signed(n int) {
	if n < 0 {
		w.number(-2*n - 1)
	} else {
		w.number(2 * n)
	}
}

// counted writes the number of bytes, and these.
func (w *writer) counted(b []byte) {
	w.number(len(b))
	w.bytes(b...)
}

// word writes four bytes, the lowest one first.
func (w *writer) word(n uint32) { w.bytes(byte(n), byte(n>>8), byte(n>>16), byte(n>>24)) }

// fault is what reading panics with: an error, and the offset that it has.
type fault struct {
	at  int
	err api.Errno
}

// must ends the reading with an error at an offset unless a condition holds.
func must(ok bool, at int, err api.Errno) {
	if !ok {
		panic(fault{at, err})
	}
}

// position is how far bytes have been read.
type position struct {
	b  []byte
	at int
}

// isAtEnd reports whether no bytes are left.
func (p *position) isAtEnd() bool { return p.at == len(p.b) }

// take reads n bytes.
func (p *position) take(n int) []byte {
	start := p.at
	must(n <= len(p.b)-start, start, api.ErrForm)
	p.at += n
	return p.b[start:p.at:p.at]
}

// number reads a number.
func (p *position) number() int { return p.upTo(math.MaxUint32) }

// upTo reads a number that is not greater than most.
func (p *position) upTo(most int) int {
	start := p.at
	n, size := leadingNumber(p.b[start:])
	must(size > 0 && n <= most, start, api.ErrForm)
	p.at += size
	return n
}

func (p *position) signed() int {
	n := p.number()
	if n%2 == 1 {
		return -(n + 1) / 2
	}
	return n / 2
}

// counted reads the number of bytes, at most so many, and these.
func (p *position) counted(most int) []byte {
	n := p.upTo(most)
	return p.take(n)
}

// word reads four bytes, the lowest one first.
func (p *position) word() uint32 {
	b := p.take(4)
	return uint32(b[0]) | uint32(b[1])<<8 | uint32(b[2])<<16 | uint32(b[3])<<24
}

// leadingNumber returns the number at the beginning of b, and how many bytes it has, or 0 if there is none.
func leadingNumber(b []byte) (n, size int) {
	const longest = 5
	for i, c := range b[:min(len(b), longest)] {
		n |= int(c%more) << (digitBits * i)
		if c < more {
			isLonger := c == 0 && i > 0
			if isLonger || n > math.MaxUint32 {
				return 0, 0
			}
			return n, i + 1
		}
	}
	return 0, 0
}
