package mem_test

import (
	"math"
	"slices"
	"testing"

	"candling/api"
	"candling/mem"
)

// P5.4: what changes a page, and what does not.
func TestChanged(t *testing.T) {
	for _, c := range []struct {
		name string
		do   func(*mem.Mem)
		want []int
	}{
		{"nothing", func(m *mem.Mem) {}, nil},
		{"Map", func(m *mem.Mem) { m.Map(8, 2, 0) }, []int{8, 9}},
		{"Map out of order", func(m *mem.Mem) { m.Map(lastPage, 1, 0); m.Map(0, 1, 0); m.Map(10, 1, 0) }, []int{0, 10, lastPage}},
		{"Map of what is mapped", func(m *mem.Mem) { m.Map(3, 3, 3) }, nil},
		{"Map of too many", func(m *mem.Mem) { m.Map(10, 2000, 3) }, nil},
		{"Unmap", func(m *mem.Mem) { m.Unmap(4, 2) }, []int{4, 5}},
		{"Unmap of what is not mapped", func(m *mem.Mem) { m.Unmap(4, 3) }, nil},
		{"Unmap and Map", func(m *mem.Mem) { m.Unmap(4, 1); m.Map(4, 1, 3) }, []int{4}},
		{"Map and Unmap", func(m *mem.Mem) { m.Map(8, 1, 3); m.Unmap(8, 1) }, []int{8}},
		{"Protect", func(m *mem.Mem) { m.Protect(4, 1, 1) }, []int{4}},
		{"Protect with the same rights", func(m *mem.Mem) { m.Protect(4, 2, 3) }, []int{4, 5}},
		{"Protect of what is not mapped", func(m *mem.Mem) { m.Protect(4, 3, 3) }, nil},
		{"Write", func(m *mem.Mem) { m.Write(1030, []byte{1}) }, []int{4}},
		{"Write of the same byte", func(m *mem.Mem) { m.Write(1030, []byte{0}) }, []int{4}},
		{"Write of no bytes", func(m *mem.Mem) { m.Write(1030, nil) }, nil},
		{"Write to two pages", func(m *mem.Mem) { m.Write(1279, []byte{0, 0}) }, []int{4, 5}},
		{"Write up to the end of a page", func(m *mem.Mem) { m.Write(1278, []byte{0, 0}) }, []int{4}},
		{"Write to three pages", func(m *mem.Mem) { m.Poke(1023, make([]byte, 258)) }, []int{3, 4, 5}},
		{"Write that fails", func(m *mem.Mem) { m.Write(1535, []byte{1, 1}) }, nil},
		{"Write without right", func(m *mem.Mem) { m.Write(800, []byte{1}) }, nil},
		{"Poke", func(m *mem.Mem) { m.Poke(800, []byte{1}) }, []int{3}},
		{"Poke of the same byte", func(m *mem.Mem) { m.Poke(800, []byte{0}) }, []int{3}},
		{"Poke that fails", func(m *mem.Mem) { m.Poke(1535, []byte{1, 1}) }, nil},
		{"calls that look", func(m *mem.Mem) {
			m.Read(1030, 5)
			m.Fetch(1030, 5)
			m.Both(1030, 5)
			m.Peek(800, 5)
			m.Sum(800, 5)
			m.Rights(4)
			m.Save()
			m.Clone().Unmap(4, 1)
			mem.Diff(m, nil)
			mem.Same(m, nil)
		}, nil},
	} {
		m := loaded(t, page(3, 1), page(4, 3), page(5, 3))
		c.do(m)
		if l := m.Changed(); !slices.Equal(l, c.want) {
			t.Errorf("%s: %v, want %v", c.name, l, c.want)
		}
		if l := m.Clone().Changed(); !slices.Equal(l, c.want) {
			t.Errorf("%s: %v of a clone, want %v", c.name, l, c.want)
		}
		m.Mark()
		if l := m.Changed(); len(l) > 0 {
			t.Errorf("%s: %v behind Mark", c.name, l)
		}
	}
}

// P5.4, P5.9: which pages have changed is a clone's own matter.
func TestChangedOfClones(t *testing.T) {
	m := loaded(t, page(3, 3), page(4, 3), page(5, 3))
	m.Poke(768, []byte{1})
	c := m.Clone()
	m.Poke(1024, []byte{1})
	c.Poke(1280, []byte{1})
	if a, b := m.Changed(), c.Changed(); !slices.Equal(a, []int{3, 4}) || !slices.Equal(b, []int{3, 5}) {
		t.Errorf("%v, and of the clone %v", a, b)
	}
	c.Mark()
	if a, b := m.Changed(), c.Changed(); !slices.Equal(a, []int{3, 4}) || len(b) > 0 {
		t.Errorf("%v, and of the clone %v", a, b)
	}
	c.Protect(3, 3, 3)
	m.Mark()
	if a, b := m.Changed(), c.Changed(); len(a) > 0 || !slices.Equal(b, []int{3, 4, 5}) {
		t.Errorf("%v, and of the clone %v", a, b)
	}
	l := c.Changed()
	l[0] = 99
	if b := c.Changed(); !slices.Equal(b, []int{3, 4, 5}) {
		t.Errorf("with a result changed: %v", b)
	}
}

// P5.4: where memories differ.
func TestDiff(t *testing.T) {
	full := func(n int) api.Page { return page(n, 3, slices.Repeat([]byte{1}, 256)...) }
	for _, c := range []struct {
		name string
		a, b []api.Page
		want []api.Span
	}{
		{"nothing", nil, nil, nil},
		{"no difference", []api.Page{page(1, 3, 1, 2)}, []api.Page{page(1, 3, 1, 2)}, nil},
		{"rights only", []api.Page{page(1, 3, 1, 2)}, []api.Page{page(1, 0, 1, 2)}, nil},
		{"a page of one", []api.Page{page(1, 3)}, nil, []api.Span{{At: 256, N: 256}}},
		{"pages side by side", []api.Page{page(1, 3), page(3, 3), page(4, 3)}, []api.Page{page(2, 3)}, []api.Span{{At: 256, N: 1024}}},
		{"a page between", []api.Page{page(1, 3), page(2, 3), page(3, 3)}, []api.Page{page(2, 3)}, []api.Span{{At: 256, N: 256}, {At: 768, N: 256}}},
		{"single bytes", []api.Page{page(1, 3, 1, 0, 1, 1, 0, 0, 7)}, []api.Page{page(1, 3, 2, 0, 2, 2, 0, 0, 7, 1)}, []api.Span{{At: 256, N: 1}, {At: 258, N: 2}, {At: 263, N: 1}}},
		{"a whole page", []api.Page{full(1)}, []api.Page{page(1, 3)}, []api.Span{{At: 256, N: 256}}},
		{"over a border", []api.Page{full(1), page(2, 3)}, []api.Page{page(1, 3), page(2, 3, 4)}, []api.Span{{At: 256, N: 257}}},
		{"bytes, then a page of one", []api.Page{full(1)}, []api.Page{page(1, 3), page(2, 3)}, []api.Span{{At: 256, N: 512}}},
		{"both ends", []api.Page{page(0, 3), page(lastPage, 3)}, nil, []api.Span{{At: 0, N: 256}, {At: 0xffffff00, N: 256}}},
		{"bytes at both ends", []api.Page{page(0, 3, 1), page(lastPage, 3, append(make([]byte, 255), 1)...)}, []api.Page{page(0, 3), page(lastPage, 3)}, []api.Span{{At: 0, N: 1}, {At: math.MaxUint32, N: 1}}},
	} {
		a, b := loaded(t, c.a...), loaded(t, c.b...)
		if got := mem.Diff(a, b); !slices.Equal(got, c.want) {
			t.Errorf("%s: %v, want %v", c.name, got, c.want)
		}
		if got := mem.Diff(b, a); !slices.Equal(got, c.want) {
			t.Errorf("%s, the other way round: %v, want %v", c.name, got, c.want)
		}
	}
	many := mem.New()
	many.Map(100, 2000, 0)
	if got := mem.Diff(many, nil); !slices.Equal(got, []api.Span{{At: 25600, N: 512000}}) {
		t.Errorf("2000 pages: %v", got)
	}
}
