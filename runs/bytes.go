package runs

import (
	"bytes"

	"candling/api"
)

// mark is what the bytes of a record begin with; sumLen is how many bytes the sum in the end has.
const (
	mark   = "CNRR"
	sumLen = 4
)

// A number has seven of its bits in each byte; the top bit says that more bytes follow.
const (
	digitBits = 7
	more      = 1 << digitBits
	maxDigits = 5 // bytes of a number
)

// threads is how many numbers of threads there is room for beside a signal.
const threads = api.MaxThreads

// Packed bytes are pieces, each with a byte k ahead. If it is below equal, k + 1 bytes follow as they are. Otherwise the byte that follows stands for minEqual equal ones if k is equal, and for one more with each greater k.
const (
	equal        = 128
	minEqual     = 3
	maxEqual     = minEqual + 255 - equal
	maxDifferent = equal
)

// Bytes returns the bytes of a record.
func Bytes(r api.Record) ([]byte, api.Errno) {
	if err := Check(r); err != api.OK {
		return nil, err
	}
	s := r.Setup
	b := withNumbers([]byte(mark), len(s.Pages))
	for _, p := range s.Pages {
		b = withPacked(withNumbers(b, p.N, p.Rights), p.B)
	}
	b = withNumbers(b, int(s.Entry), int(s.SP), s.Heap.Page, s.Heap.N, s.Heap.Red, s.Heap.Quarantine, len(s.In))
	b = withNumbers(append(b, s.In...), len(r.Turns))
	for _, t := range r.Turns {
		b = withNumbers(b, t.Thread+threads*t.Sig, t.Steps)
	}
	h := sum(b)
	return append(b, byte(h), byte(h>>8), byte(h>>16), byte(h>>24)), api.OK
}

// sum returns the sum of bytes with which the bytes of a record end.
func sum(b []byte) uint32 {
	h := uint32(2166136261)
	for _, x := range b {
		h = (h ^ uint32(x)) * 16777619
	}
	return h
}

// withNumbers returns bytes with numbers behind them.
func withNumbers(b []byte, numbers ...int) []byte {
	for _, n := range numbers {
		for n >= more {
			b = append(b, byte(n)|more)
			n >>= digitBits
		}
		b = append(b, byte(n))
	}
	return b
}

// withPacked returns bytes with those of a page, packed, behind them.
func withPacked(b, page []byte) []byte {
	for len(page) > 0 {
		n := equalAt(page, 0)
		if n >= minEqual {
			n = min(n, maxEqual)
			b = append(b, byte(n-minEqual+equal), page[0])
		} else {
			n = different(page)
			b = append(append(b, byte(n-1)), page[:n]...)
		}
		page = page[n:]
	}
	return b
}

// equalAt returns how many equal bytes there are from an index on.
func equalAt(b []byte, at int) int {
	n := 1
	for at+n < len(b) && b[at+n] == b[at] {
		n++
	}
	return n
}

// different returns how many bytes, as many as a piece can have, there are ahead of so many equal ones that they are packed.
func different(b []byte) int {
	n := 0
	for n < len(b) && n < maxDifferent && equalAt(b, n) < minEqual {
		n++
	}
	return n
}

// Read returns the record with these bytes.
func Read(b []byte) (r api.Record, err api.Errno) {
	defer func() {
		if recover() != nil {
			r, err = api.Record{}, api.ErrBytes
		}
	}()
	r = (&reader{b}).record()
	// There is one way to write a record: all that is read too easily here is found so.
	again, err := Bytes(r)
	if err != api.OK || !areEqual(again, b) {
		panic(unreadable{})
	}
	return r, api.OK
}

// unreadable is what reading panics with when the bytes are not those of a record.
type unreadable struct{}

// reader reads bytes from the left on.
type reader struct{ left []byte }

// take reads n bytes.
func (r *reader) take(n int) []byte {
	if n > len(r.left) {
		panic(unreadable{})
	}
	b := r.left[:n]
	r.left = r.left[n:]
	return b
}

// number reads a number.
func (r *reader) number() int {
	n := 0
	for i := range maxDigits {
		x := int(r.take(1)[0])
		n |= (x % more) << (digitBits * i)
		if x < more {
			return n
		}
	}
	panic(unreadable{})
}

// count reads how many of something there are, at most so many.
func (r *reader) count(most int) int {
	n := r.number()
	if n > most {
		panic(unreadable{})
	}
	return n
}

func (r *reader) record() api.Record {
	r.take(len(mark))
	var x api.Record
	x.Setup = r.setup()
	for range r.count(api.MaxTurns) {
		x.Turns = append(x.Turns, r.turn())
	}
	r.take(sumLen)
	return x
}

func (r *reader) setup() api.Setup {
	var s api.Setup
	for range r.count(api.MaxPages) {
		s.Pages = append(s.Pages, api.Page{N: r.number(), Rights: r.number(), B: r.unpacked()})
	}
	s.Entry, s.SP = uint32(r.number()), uint32(r.number())
	s.Heap = api.HeapConf{Page: r.number(), N: r.number(), Red: r.number(), Quarantine: r.number()}
	s.In = bytes.Clone(r.take(r.count(api.MaxIn)))
	return s
}

func (r *reader) turn() api.Turn {
	n := r.number()
	return api.Turn{Thread: n % threads, Sig: n / threads, Steps: r.number()}
}

// unpacked reads the bytes of a page; if they are no whole page, they are too many.
func (r *reader) unpacked() []byte {
	var b []byte
	for len(b) < api.PageSize {
		if k := int(r.take(1)[0]); k < equal {
			b = append(b, r.take(k+1)...)
		} else {
			b = append(b, bytes.Repeat(r.take(1), k-equal+minEqual)...)
		}
	}
	return b
}
