package mem_test

import (
	"bytes"
	"math"
	"slices"
	"testing"

	"candling/api"
	"candling/mem"
)

// P5.1: a new memory.
func TestNew(t *testing.T) {
	m := mem.New()
	if m == nil {
		t.Fatal("New: nil")
	}
	wantPages(t, m)
	if l := m.Changed(); len(l) > 0 {
		t.Errorf("Changed: %v", l)
	}
	if err := m.Map(3, 1, 7); err != api.OK {
		t.Errorf("Map: %d", err)
	}
	wantPages(t, mem.New())
}

// manyPages are n valid pages.
func manyPages(n int) []api.Page {
	var l []api.Page
	for k := range n {
		l = append(l, page(3*k, k%8, byte(k)))
	}
	return l
}

// P5.1: pages that can be loaded, and saved.
func TestLoad(t *testing.T) {
	for name, l := range map[string][]api.Page{
		"nothing":        nil,
		"no pages":       {},
		"one":            {page(7, 3, 1, 2, 3)},
		"both ends":      {page(0, 0), page(lastPage, 7, 9)},
		"in order":       {page(1, 1, 1), page(2, 2, 2), page(3, 4, 3)},
		"2000":           manyPages(2000),
		"all bytes used": {{N: 5, Rights: 5, B: bytes.Repeat([]byte{255}, 256)}},
	} {
		m, err := mem.Load(l)
		if m == nil || err != api.OK {
			t.Errorf("%s: %v, %d", name, m, err)
			continue
		}
		if got := m.Save(); !isEqual(got, l) {
			t.Errorf("%s: Save: %v", name, got)
		}
		if got := m.Changed(); len(got) > 0 {
			t.Errorf("%s: Changed: %v", name, got)
		}
	}
}

// P5.1: pages that cannot; the form is looked at ahead of the limit.
func TestLoadErrors(t *testing.T) {
	bad := map[string]api.Page{
		"number -1":     page(-1, 3),
		"number 2^24":   page(1<<24, 3),
		"least number":  page(math.MinInt, 3),
		"most number":   page(math.MaxInt, 3),
		"rights -1":     page(4, -1),
		"rights 8":      page(4, 8),
		"no bytes":      {N: 4, Rights: 3},
		"255 bytes":     {N: 4, Rights: 3, B: make([]byte, 255)},
		"257 bytes":     {N: 4, Rights: 3, B: make([]byte, 257)},
		"512 bytes":     {N: 4, Rights: 3, B: make([]byte, 512)},
		"the same":      page(3, 3),
		"out of order":  page(2, 3),
		"far too early": page(0, 3),
	}
	wantError := func(name string, l []api.Page, want api.Errno) {
		t.Helper()
		if m, err := mem.Load(l); m != nil || err != want {
			t.Errorf("%s: %v, %d, want %d", name, m, err, want)
		}
	}
	for name, p := range bad {
		wantError(name, []api.Page{page(3, 3), p}, api.ErrForm)
		wantError(name+", in the middle", []api.Page{page(3, 3), p, page(9, 3)}, api.ErrForm)
		p.N += 10000
		if p.N != 10004 { // the number itself is bad
			continue
		}
		wantError(name+", behind 2000", append(manyPages(2000), p), api.ErrForm)
	}
	wantError("number -1 alone", []api.Page{page(-1, 3)}, api.ErrForm)
	wantError("2001", manyPages(2001), api.ErrLimit)
	wantError("5000", manyPages(5000), api.ErrLimit)
	wantError("2001, the last one twice", append(manyPages(2001), page(6000, 3)), api.ErrForm)
}

// P5.1, P5.3: a memory shares no bytes with what was given to it or came from it.
func TestOwnBytes(t *testing.T) {
	l := []api.Page{page(1, 3, 1, 2, 3), page(2, 7, 4)}
	m := loaded(t, l...)
	l[0].B[0], l[1] = 99, page(5, 5)
	want := []api.Page{page(1, 3, 1, 2, 3), page(2, 7, 4)}
	wantPages(t, m, want...)
	saved := m.Save()
	saved[0].B[1], saved[1].Rights = 99, 0
	wantPages(t, m, want...)
	if !isEqual([]api.Page{saved[1]}, []api.Page{page(2, 0, 4)}) {
		t.Error("saved pages share bytes")
	}
	b := []byte{7, 8}
	m.Write(256, b)
	b[0] = 99
	want[0] = page(1, 3, 7, 8, 3)
	for _, read := range []func(uint32, int) ([]byte, uint32, bool){m.Read, m.Both, m.Peek} {
		b, _, ok := read(256, 3)
		if !ok || !slices.Equal(b, []byte{7, 8, 3}) {
			t.Fatalf("%v, %v", b, ok)
		}
		clear(b)
	}
	b, _, _ = m.Fetch(512, 3)
	clear(b)
	wantPages(t, m, want...)
}

// P5.1: Same.
func TestSame(t *testing.T) {
	base := func() []api.Page { return []api.Page{page(1, 3, 1), page(5, 5, 2, 3)} }
	m := loaded(t, base()...)
	for name, l := range map[string][]api.Page{
		"no pages":         nil,
		"one page less":    {page(1, 3, 1)},
		"one page more":    {page(1, 3, 1), page(5, 5, 2, 3), page(6, 0)},
		"another page":     {page(1, 3, 1), page(6, 5, 2, 3)},
		"other rights":     {page(1, 3, 1), page(5, 4, 2, 3)},
		"another byte":     {page(1, 3, 1), page(5, 5, 2, 4)},
		"a byte elsewhere": {page(1, 3, 1), page(5, 5, 2, 3, 1)},
	} {
		n := loaded(t, l...)
		if mem.Same(m, n) || mem.Same(n, m) {
			t.Errorf("%s: the same", name)
		}
	}
	n := loaded(t, base()...)
	n.Poke(256, []byte{1})
	if !mem.Same(m, n) || !mem.Same(n, m) || !mem.Same(m, m) || !mem.Same(mem.New(), mem.New()) {
		t.Error("not the same")
	}
	n.Poke(257, []byte{1})
	if mem.Same(m, n) {
		t.Error("the same, and written to")
	}
	n.Poke(257, []byte{0})
	if !mem.Same(m, n) {
		t.Error("not the same, and written back")
	}
}

// P5.2: numbers and rights that Map, Unmap and Protect do not have.
func TestPageArguments(t *testing.T) {
	for _, c := range []struct{ page, n int }{
		{-1, 1}, {-1, 3}, {1 << 24, 1}, {lastPage, 2}, {lastPage - 1, 3}, {0, 1<<24 + 1}, {1, 1 << 24}, {3, 0}, {3, -1},
		{math.MinInt, 1}, {math.MaxInt, 1}, {math.MaxInt, math.MaxInt}, {1, math.MaxInt}, {lastPage, math.MaxInt}, {3, math.MinInt}, {math.MinInt, math.MinInt}, {-1, math.MinInt}, {1 << 24, 0}, {-5, 1 << 24},
	} {
		m := loaded(t, page(0, 3), page(3, 3), page(lastPage, 3))
		if a, b, p := m.Map(c.page, c.n, 3), m.Unmap(c.page, c.n), m.Protect(c.page, c.n, 3); a != api.ErrArg || b != api.ErrArg || p != api.ErrArg {
			t.Errorf("%d pages from %d on: %d, %d, %d", c.n, c.page, a, b, p)
		}
		wantPages(t, m, page(0, 3), page(3, 3), page(lastPage, 3))
	}
	for _, rights := range []int{-1, 8, 9, 16, math.MinInt, math.MaxInt} {
		m := loaded(t, page(3, 3))
		if a, b, p := m.Map(4, 1, rights), m.Map(3, 1, rights), m.Protect(3, 1, rights); a != api.ErrArg || b != api.ErrArg || p != api.ErrArg {
			t.Errorf("rights %d: %d, %d, %d", rights, a, b, p)
		}
		if err := m.Protect(4, 1, rights); err != api.ErrArg {
			t.Errorf("rights %d of a page that is not mapped: %d", rights, err)
		}
		wantPages(t, m, page(3, 3))
	}
	for rights := range 8 {
		m := mem.New()
		if err := m.Map(4, 1, rights); err != api.OK {
			t.Errorf("Map, rights %d: %d", rights, err)
		}
		wantPages(t, m, page(4, rights))
		if err := m.Protect(4, 1, 7-rights); err != api.OK {
			t.Errorf("Protect, rights %d: %d", 7-rights, err)
		}
		wantPages(t, m, page(4, 7-rights))
	}
}

// P5.2: with pages that are mapped, and that are not, nothing is done in part.
func TestMapState(t *testing.T) {
	pages := []api.Page{page(3, 3, 1), page(4, 1, 2), page(6, 5, 3)}
	for _, c := range []struct {
		page, n          int
		isFree, isMapped bool
	}{
		{3, 1, false, true}, {3, 2, false, true}, {6, 1, false, true},
		{3, 3, false, false}, {3, 4, false, false}, {2, 2, false, false}, {5, 2, false, false}, {4, 2, false, false}, {0, 10, false, false}, {0, 1 << 24, false, false}, {5, 1<<24 - 5, false, false},
		{5, 1, true, false}, {2, 1, true, false}, {0, 3, true, false}, {7, 1993, true, false}, {lastPage, 1, true, false},
	} {
		for _, w := range []struct {
			name  string
			do    func(*mem.Mem) api.Errno
			isOne bool
		}{
			{"Map", func(m *mem.Mem) api.Errno { return m.Map(c.page, c.n, 7) }, c.isFree},
			{"Unmap", func(m *mem.Mem) api.Errno { return m.Unmap(c.page, c.n) }, c.isMapped},
			{"Protect", func(m *mem.Mem) api.Errno { return m.Protect(c.page, c.n, 7) }, c.isMapped},
		} {
			m := loaded(t, pages...)
			err := w.do(m)
			if w.isOne != (err == api.OK) || !w.isOne && err != api.ErrState {
				t.Errorf("%s of %d from %d on: %d", w.name, c.n, c.page, err)
			}
			if !w.isOne {
				wantPages(t, m, pages...)
				if l := m.Changed(); len(l) > 0 {
					t.Errorf("%s of %d from %d on: changed: %v", w.name, c.n, c.page, l)
				}
			}
		}
	}
}

// P5.2: what the three do, and Rights of all pages.
func TestMapUnmapProtect(t *testing.T) {
	m := loaded(t, page(3, 3, 1), page(4, 1, 2), page(6, 5, 3))
	if err := m.Protect(3, 2, 6); err != api.OK {
		t.Errorf("Protect: %d", err)
	}
	wantPages(t, m, page(3, 6, 1), page(4, 6, 2), page(6, 5, 3))
	if err := m.Unmap(4, 1); err != api.OK {
		t.Errorf("Unmap: %d", err)
	}
	wantPages(t, m, page(3, 6, 1), page(6, 5, 3))
	if err := m.Map(4, 2, 2); err != api.OK {
		t.Errorf("Map: %d", err)
	}
	wantPages(t, m, page(3, 6, 1), page(4, 2), page(5, 2), page(6, 5, 3))
	m.Map(lastPage, 1, 0)
	m.Map(0, 1, 7)
	for n, want := range map[int]int{0: 7, 3: 6, 4: 2, 5: 2, 6: 5, lastPage: 0} {
		if rights, ok := m.Rights(n); rights != want || !ok {
			t.Errorf("Rights of %d: %d, %v", n, rights, ok)
		}
	}
	for _, n := range []int{-1, 1, 2, 7, lastPage - 1, lastPage + 1, 1<<24 + 3, math.MinInt, math.MaxInt, 1<<32 + 3, -1 << 24} {
		if rights, ok := m.Rights(n); rights != 0 || ok {
			t.Errorf("Rights of %d: %d, %v", n, rights, ok)
		}
	}
}

// P5.2: 2000 pages and no more; pages that are mapped come ahead of the limit.
func TestMapLimit(t *testing.T) {
	m := mem.New()
	for _, c := range []struct {
		page, n int
		want    api.Errno
	}{
		{10, 2001, api.ErrLimit}, {0, 1 << 24, api.ErrLimit}, {10, 1999, api.OK}, {5, 2, api.ErrLimit}, {9, 2, api.ErrState}, {0, 1 << 24, api.ErrState}, {3000, 1<<24 - 3000, api.ErrLimit},
		{5, 1, api.OK}, {6, 1, api.ErrLimit}, {5, 1, api.ErrState}, {lastPage, 1, api.ErrLimit},
	} {
		if err := m.Map(c.page, c.n, 3); err != c.want {
			t.Errorf("Map(%d, %d): %d, want %d", c.page, c.n, err, c.want)
		}
	}
	if n := len(m.Save()); n != 2000 {
		t.Errorf("%d pages", n)
	}
	if err := m.Protect(10, 1999, 0); err != api.OK {
		t.Errorf("Protect: %d", err)
	}
	if err := m.Unmap(10, 1999); err != api.OK {
		t.Errorf("Unmap: %d", err)
	}
	wantPages(t, m, page(5, 3))
	if err := mem.New().Map(0, 2000, 7); err != api.OK {
		t.Errorf("Map of 2000: %d", err)
	}
}

// The chapter's section Errors: a nil memory.
func TestNilMemory(t *testing.T) {
	var m *mem.Mem
	if m.Save() != nil || m.Changed() != nil || m.Clone() != nil {
		t.Errorf("Save %v, Changed %v, Clone %v", m.Save(), m.Changed(), m.Clone())
	}
	m.Mark()
	for _, n := range []int{0, 1, -1, lastPage, math.MaxInt} {
		if a, b, p := m.Map(n, n, n), m.Unmap(n, n), m.Protect(n, n, n); a != api.ErrState || b != api.ErrState || p != api.ErrState {
			t.Errorf("%d: Map %d, Unmap %d, Protect %d", n, a, b, p)
		}
		if rights, ok := m.Rights(n); rights != 0 || ok {
			t.Errorf("Rights of %d: %d, %v", n, rights, ok)
		}
		for _, read := range []func(uint32, int) ([]byte, uint32, bool){m.Read, m.Fetch, m.Both, m.Peek} {
			if b, bad, ok := read(77, n); b != nil || bad != 77 || ok {
				t.Errorf("%d bytes: %v, %d, %v", n, b, bad, ok)
			}
		}
		if sum, ok := m.Sum(77, n); sum != 0 || ok {
			t.Errorf("Sum of %d: %d, %v", n, sum, ok)
		}
	}
	for _, b := range [][]byte{nil, {}, {1}, make([]byte, 70000)} {
		at, ok := m.Write(77, b)
		to, is := m.Poke(78, b)
		if at != 77 || ok || to != 78 || is {
			t.Errorf("%d bytes: Write %d, %v, Poke %d, %v", len(b), at, ok, to, is)
		}
	}
	some := loaded(t, page(3, 3, 1))
	if !mem.Same(m, m) || !mem.Same(m, mem.New()) || !mem.Same(mem.New(), m) || mem.Same(m, some) || mem.Same(some, m) {
		t.Error("Same")
	}
	want := []api.Span{{At: 768, N: 256}}
	if a, b := mem.Diff(m, some), mem.Diff(some, m); !slices.Equal(a, want) || !slices.Equal(b, want) || len(mem.Diff(m, m)) > 0 || len(mem.Diff(m, mem.New())) > 0 {
		t.Errorf("Diff: %v, %v", a, b)
	}
}

// The chapter's section Errors: a memory that New has not made.
func TestZeroMemory(t *testing.T) {
	var m, other mem.Mem
	wantPages(t, &m)
	m.Mark()
	if !mem.Same(&m, mem.New()) || len(m.Changed()) > 0 || len(mem.Diff(&m, nil)) > 0 {
		t.Error("it has pages")
	}
	if a, b := m.Unmap(3, 1), m.Protect(3, 1, 3); a != api.ErrState || b != api.ErrState {
		t.Errorf("Unmap %d, Protect %d", a, b)
	}
	if b, bad, ok := m.Read(5, 0); len(b) > 0 || bad != 0 || !ok {
		t.Errorf("Read of nothing: %v, %d, %v", b, bad, ok)
	}
	if bad, ok := m.Poke(5, []byte{1}); bad != 5 || ok {
		t.Errorf("Poke: %d, %v", bad, ok)
	}
	c := m.Clone()
	for _, x := range []*mem.Mem{&m, c} {
		if err := x.Map(3, 1, 3); err != api.OK {
			t.Errorf("Map: %d", err)
		}
		if bad, ok := x.Write(768, []byte{4}); bad != 0 || !ok {
			t.Errorf("Write: %d, %v", bad, ok)
		}
		wantPages(t, x, page(3, 3, 4))
		if l := x.Changed(); !slices.Equal(l, []int{3}) {
			t.Errorf("Changed: %v", l)
		}
	}
	wantPages(t, &other)
}
