package mem

import (
	"iter"

	"candling/api"
)

// Read returns bytes of pages with RtRead, or the first address that is not such a one, and false.
func (m *Mem) Read(at uint32, n int) ([]byte, uint32, bool) { return m.get(at, n, readable) }

// Fetch returns bytes of pages with RtExec, likewise.
func (m *Mem) Fetch(at uint32, n int) ([]byte, uint32, bool) { return m.get(at, n, executable) }

// Both returns bytes of pages with RtRead and RtWrite, likewise.
func (m *Mem) Both(at uint32, n int) ([]byte, uint32, bool) { return m.get(at, n, changeable) }

// Peek returns bytes of pages that are mapped, likewise.
func (m *Mem) Peek(at uint32, n int) ([]byte, uint32, bool) { return m.get(at, n, mapped) }

// Write writes bytes to pages with RtWrite; if some of them are none, it writes nothing, and returns the first such address, and false.
func (m *Mem) Write(at uint32, b []byte) (uint32, bool) { return m.put(at, b, writable) }

// Poke writes bytes to pages that are mapped, likewise.
func (m *Mem) Poke(at uint32, b []byte) (uint32, bool) { return m.put(at, b, mapped) }

// Sum returns a sum of bytes of pages that are mapped; false: some are not.
func (m *Mem) Sum(at uint32, n int) (uint64, bool) {
	b, _, ok := m.Peek(at, n)
	if !ok {
		return 0, false
	}
	sum := uint64(14695981039346656037)
	for _, x := range b {
		sum = (sum ^ uint64(x)) * 1099511628211
	}
	return sum, true
}

// get returns bytes of pages that have the rights that are asked for, or the first bad address, and false.
func (m *Mem) get(at uint32, n, rights int) ([]byte, uint32, bool) {
	if bad, ok := m.allows(at, n, rights); !ok {
		return nil, bad, false
	}
	b := make([]byte, n)
	for p := range piecesOf(at, n) {
		copy(b[p.index:], m.pages[p.page].b[p.from:p.to])
	}
	return b, 0, true
}

// put writes bytes to pages that have the rights that are asked for, or returns the first bad address, and false.
func (m *Mem) put(at uint32, b []byte, rights int) (uint32, bool) {
	if bad, ok := m.allows(at, len(b), rights); !ok {
		return bad, false
	}
	for p := range piecesOf(at, len(b)) {
		copy(m.owned(p.page).b[p.from:p.to], b[p.index:])
		m.touch(p.page)
	}
	return 0, true
}

// allows reports whether the pages of n bytes at an address have the rights that are asked for; if not, it returns the first bad address.
func (m *Mem) allows(at uint32, n, rights int) (uint32, bool) {
	if m == nil || n < 0 || n > api.MaxRange {
		return at, false
	}
	for p := range piecesOf(at, n) {
		e, isMapped := m.pages[p.page]
		if !isMapped || e.rights&rights != rights {
			return at + uint32(p.index), false
		}
	}
	return 0, true
}

// owned returns the bytes of a page, in a frame that no other memory has.
func (m *Mem) owned(page int) *frame {
	e := m.pages[page]
	if e.shared.Load() {
		e.frame = &frame{b: e.b}
		m.pages[page] = e
	}
	return e.frame
}

// piece is a piece of the bytes at an address, as much as one page has of them: the bytes of the page from one offset up to another one. The first of them has the index among all bytes.
type piece struct{ page, from, to, index int }

// piecesOf yields the pieces of n bytes at an address, in order.
func piecesOf(at uint32, n int) iter.Seq[piece] {
	return func(yield func(piece) bool) {
		for index := 0; index < n; {
			first := at + uint32(index)
			from := int(first % api.PageSize)
			to := min(from+n-index, api.PageSize)
			if !yield(piece{int(first / api.PageSize), from, to, index}) {
				return
			}
			index += to - from
		}
	}
}
