package mem_test

import (
	"math"
	"slices"
	"testing"

	"candling/api"
	"candling/mem"
)

type reader = func(at uint32, n int) ([]byte, uint32, bool)

// wantBytes holds that bytes are read.
func wantBytes(t *testing.T, read reader, at uint32, want ...byte) {
	t.Helper()
	if b, bad, ok := read(at, len(want)); !slices.Equal(b, want) || bad != 0 || !ok {
		t.Errorf("at %#x: %v, %#x, %v, want %v", at, b, bad, ok, want)
	}
}

// wantBad holds that bytes are not read.
func wantBad(t *testing.T, read reader, at uint32, n int, want uint32) {
	t.Helper()
	if b, bad, ok := read(at, n); b != nil || bad != want || ok {
		t.Errorf("%d bytes at %#x: %v, %#x, %v, want %#x", n, at, b, bad, ok, want)
	}
}

// P5.2 to P5.4: the chapter's examples.
func TestExamples(t *testing.T) {
	m := example(t)
	if bad, ok := m.Write(510, []byte{1, 2}); bad != 0 || !ok {
		t.Errorf("Write at 510: %d, %v", bad, ok)
	}
	if bad, ok := m.Write(511, []byte{1, 2}); bad != 512 || ok {
		t.Errorf("Write at 511: %d, %v", bad, ok)
	}
	wantBytes(t, m.Read, 510, 1, 2, 0, 0)
	wantBad(t, m.Read, 510, 300, 768)
	wantBad(t, m.Fetch, 256, 1, 256)
	wantBytes(t, m.Peek, 256, 0)
	if a, b, c := m.Map(1, 1, 7), m.Map(0, 2, 7), m.Unmap(2, 2); a != api.ErrState || b != api.ErrState || c != api.ErrState {
		t.Errorf("Map: %d, %d, Unmap: %d", a, b, c)
	}
	if err := m.Map(16777215, 2, 1); err != api.ErrArg {
		t.Errorf("Map of 16777215: %d", err)
	}
	if l := m.Changed(); !slices.Equal(l, []int{1, 2}) {
		t.Errorf("Changed: %v", l)
	}
	clone := m.Clone()
	m.Mark()
	m.Poke(513, []byte{9})
	if l := m.Changed(); !slices.Equal(l, []int{2}) {
		t.Errorf("Changed: %v", l)
	}
	m.Poke(513, []byte{0})
	clone.Poke(513, []byte{7})
	if l := mem.Diff(m, mem.New()); !slices.Equal(l, []api.Span{{At: 256, N: 512}}) {
		t.Errorf("Diff with no pages: %v", l)
	}
	if l := mem.Diff(m, clone); !slices.Equal(l, []api.Span{{At: 513, N: 1}}) {
		t.Errorf("Diff with the clone: %v", l)
	}
	if sum, ok := m.Sum(510, 0); sum != 14695981039346656037 || !ok {
		t.Errorf("Sum of nothing: %d, %v", sum, ok)
	}
	if sum, ok := m.Sum(0, 1); sum != 0 || ok {
		t.Errorf("Sum at 0: %d, %v", sum, ok)
	}
}

// P5.3: which rights each of the calls needs.
func TestRights(t *testing.T) {
	for rights := range 8 {
		m := loaded(t, page(2, rights, 5, 6))
		for _, c := range []struct {
			name string
			read reader
			need int
		}{{"Read", m.Read, 1}, {"Fetch", m.Fetch, 4}, {"Both", m.Both, 3}, {"Peek", m.Peek, 0}} {
			if rights&c.need == c.need {
				wantBytes(t, c.read, 512, 5, 6)
				wantBad(t, c.read, 767, 2, 768)
			} else {
				wantBad(t, c.read, 513, 1, 513)
				wantBad(t, c.read, 767, 2, 767)
			}
			wantBytes(t, c.read, 520)
			wantBad(t, c.read, 511, 2, 511)
		}
		if bad, ok := m.Write(513, []byte{9}); ok != (rights&2 != 0) || !ok && bad != 513 || ok && bad != 0 {
			t.Errorf("Write, rights %d: %d, %v", rights, bad, ok)
		}
		want := byte(6)
		if rights&2 != 0 {
			want = 9
		}
		wantPages(t, m, page(2, rights, 5, want))
		if bad, ok := m.Poke(513, []byte{8}); bad != 0 || !ok {
			t.Errorf("Poke, rights %d: %d, %v", rights, bad, ok)
		}
		wantPages(t, m, page(2, rights, 5, 8))
	}
}

// P5.3: how many bytes can be read and written at once.
func TestLengths(t *testing.T) {
	m := mem.New()
	m.Map(10, 300, 7)
	for _, read := range []reader{m.Read, m.Fetch, m.Both, m.Peek} {
		for _, n := range []int{-1, 65537, 70000, math.MinInt, math.MaxInt, 1 << 32} {
			wantBad(t, read, 2560, n, 2560)
			wantBad(t, read, 5, n, 5)
		}
		for _, at := range []uint32{0, 77, 2560, math.MaxUint32} {
			wantBytes(t, read, at)
		}
		wantBytes(t, read, 2561, make([]byte, 65536)...)
		wantBad(t, read, 2561, 65537, 2561)
	}
	for _, write := range []func(uint32, []byte) (uint32, bool){m.Write, m.Poke} {
		for _, at := range []uint32{0, 77, 2560, math.MaxUint32} {
			if bad, ok := write(at, nil); bad != 0 || !ok {
				t.Errorf("nothing at %d: %d, %v", at, bad, ok)
			}
		}
		b := make([]byte, 65537)
		b[0], b[65535] = 1, 2
		m.Mark()
		if bad, ok := write(2562, b); bad != 2562 || ok || len(m.Changed()) > 0 {
			t.Errorf("65537 bytes: %d, %v", bad, ok)
		}
		if bad, ok := write(2562, b[:65536]); bad != 0 || !ok || len(m.Changed()) != 257 {
			t.Errorf("65536 bytes: %d, %v, %v", bad, ok, m.Changed())
		}
		wantBytes(t, m.Read, 2561, 0, 1, 0)
		wantBytes(t, m.Read, 2561+65535, 0, 2, 0)
		m.Poke(2562, make([]byte, 65536))
	}
	for n, want := range map[int]bool{-1: false, 0: true, 1: true, 65536: true, 65537: false, math.MinInt: false, math.MaxInt: false} {
		if sum, ok := m.Sum(2600, n); ok != want || ok != (sum != 0) {
			t.Errorf("Sum of %d: %d, %v", n, sum, ok)
		}
	}
}

// P5.3: behind the last address comes 0.
func TestAround(t *testing.T) {
	m := loaded(t, page(0, 7), page(1, 3), page(lastPage-1, 7), page(lastPage, 7))
	if bad, ok := m.Write(math.MaxUint32-1, []byte{1, 2, 3, 4}); bad != 0 || !ok {
		t.Errorf("Write: %#x, %v", bad, ok)
	}
	for _, read := range []reader{m.Read, m.Fetch, m.Both, m.Peek} {
		wantBytes(t, read, math.MaxUint32-2, 0, 1, 2, 3, 4, 0)
		wantBytes(t, read, math.MaxUint32, 2, 3)
		wantBytes(t, read, 0, 3, 4)
	}
	if bad, ok := m.Poke(math.MaxUint32, make([]byte, 600)); bad != 512 || ok {
		t.Errorf("Poke: %#x, %v", bad, ok)
	}
	wantBad(t, m.Fetch, math.MaxUint32, 300, 256)
	wantBad(t, m.Read, 0xfffffdff, 10, 0xfffffdff)
	m.Protect(0, 1, 2)
	wantBad(t, m.Read, math.MaxUint32, 2, 0)
	wantBytes(t, m.Read, math.MaxUint32, 2)
	m.Unmap(0, 1)
	wantBad(t, m.Peek, math.MaxUint32-5, 300, 0)
	if l := m.Changed(); !slices.Equal(l, []int{0, lastPage}) {
		t.Errorf("Changed: %v", l)
	}
	if sum, ok := m.Sum(math.MaxUint32, 2); sum != 0 || ok {
		t.Errorf("Sum: %d, %v", sum, ok)
	}
}

// P5.2, P5.5: pages are mapped with zeros, also those that were unmapped.
func TestMappedAgain(t *testing.T) {
	m := example(t)
	m.Write(300, []byte{1, 2, 3})
	m.Unmap(1, 1)
	wantBad(t, m.Peek, 300, 1, 300)
	m.Map(1, 1, 3)
	wantBytes(t, m.Read, 299, 0, 0, 0, 0, 0)
	wantPages(t, m, page(1, 3), page(2, 1))
}

// P5.4: sums, which are those of FNV-1a.
func TestSum(t *testing.T) {
	m := loaded(t, page(0, 0, []byte("afoobar")...), page(1, 0), page(2, 2, 5))
	m.Poke(254, []byte("ab"))
	m.Poke(256, []byte("c"))
	for _, c := range []struct {
		at   uint32
		n    int
		want uint64
	}{{0, 0, 0xcbf29ce484222325}, {0, 1, 0xaf63dc4c8601ec8c}, {1, 6, 0x85944171f73967e8}, {254, 3, 0xe71fa2190541574b}} {
		if sum, ok := m.Sum(c.at, c.n); sum != c.want || !ok {
			t.Errorf("Sum of %d bytes at %d: %#x, %v", c.n, c.at, sum, ok)
		}
	}
	if sum, ok := m.Sum(767, 2); sum != 0 || ok {
		t.Errorf("Sum behind the pages: %d, %v", sum, ok)
	}
}
