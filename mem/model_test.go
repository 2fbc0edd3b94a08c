package mem_test

import (
	"maps"
	"slices"
	"strings"
	"testing"

	"candling/api"
	"candling/mem"
)

// model does what the chapter says in the plainest way, address by address.
type model struct {
	rights  map[int]int     // of the pages that are mapped
	bytes   map[uint32]byte // that have been written since their pages were mapped
	changed map[int]bool
}

func newModel() *model { return &model{map[int]int{}, map[uint32]byte{}, map[int]bool{}} }

func (x *model) clone() *model {
	return &model{maps.Clone(x.rights), maps.Clone(x.bytes), maps.Clone(x.changed)}
}

func (x *model) isMapped(page int) bool { _, found := x.rights[page]; return found }

func (x *model) Save() []api.Page {
	var l []api.Page
	for _, n := range slices.Sorted(maps.Keys(x.rights)) {
		p := api.Page{N: n, Rights: x.rights[n]}
		for off := range 256 {
			p.B = append(p.B, x.bytes[uint32(n*256+off)])
		}
		l = append(l, p)
	}
	return l
}

func areNumbers(page, n int) bool {
	return n >= 1 && n <= 1<<24 && page >= 0 && page < 1<<24 && page+n <= 1<<24
}

func (x *model) Map(page, n, rights int) api.Errno {
	if !areNumbers(page, n) || rights < 0 || rights > 7 {
		return api.ErrArg
	}
	for k := range n {
		if x.isMapped(page + k) {
			return api.ErrState
		}
	}
	if len(x.rights)+n > 2000 {
		return api.ErrLimit
	}
	for k := range n {
		x.rights[page+k], x.changed[page+k] = rights, true
	}
	return api.OK
}

func (x *model) Unmap(page, n int) api.Errno {
	if err := x.Protect(page, n, 0); err != api.OK {
		return err
	}
	for k := range n {
		delete(x.rights, page+k)
		for off := range 256 {
			delete(x.bytes, uint32((page+k)*256+off))
		}
	}
	return api.OK
}

func (x *model) Protect(page, n, rights int) api.Errno {
	if !areNumbers(page, n) || rights < 0 || rights > 7 {
		return api.ErrArg
	}
	for k := range n {
		if !x.isMapped(page + k) {
			return api.ErrState
		}
	}
	for k := range n {
		x.rights[page+k], x.changed[page+k] = rights, true
	}
	return api.OK
}

func (x *model) Rights(page int) (int, bool) { return x.rights[page], x.isMapped(page) }

// bad returns the first of n bytes at an address whose page lacks a right.
func (x *model) bad(at uint32, n, rights int) (uint32, bool) {
	if n < 0 || n > 65536 {
		return at, true
	}
	for k := range n {
		page := int(at+uint32(k)) / 256
		if !x.isMapped(page) || x.rights[page]|rights != x.rights[page] {
			return at + uint32(k), true
		}
	}
	return 0, false
}

func (x *model) read(at uint32, n, rights int) ([]byte, uint32, bool) {
	if bad, is := x.bad(at, n, rights); is {
		return nil, bad, false
	}
	var b []byte
	for k := range n {
		b = append(b, x.bytes[at+uint32(k)])
	}
	return b, 0, true
}

func (x *model) Read(at uint32, n int) ([]byte, uint32, bool)  { return x.read(at, n, api.RtRead) }
func (x *model) Fetch(at uint32, n int) ([]byte, uint32, bool) { return x.read(at, n, api.RtExec) }
func (x *model) Peek(at uint32, n int) ([]byte, uint32, bool)  { return x.read(at, n, 0) }
func (x *model) Both(at uint32, n int) ([]byte, uint32, bool) {
	return x.read(at, n, api.RtRead+api.RtWrite)
}

func (x *model) write(at uint32, b []byte, rights int) (uint32, bool) {
	if bad, is := x.bad(at, len(b), rights); is {
		return bad, false
	}
	for k, c := range b {
		x.bytes[at+uint32(k)], x.changed[int(at+uint32(k))/256] = c, true
	}
	return 0, true
}

func (x *model) Write(at uint32, b []byte) (uint32, bool) { return x.write(at, b, api.RtWrite) }
func (x *model) Poke(at uint32, b []byte) (uint32, bool)  { return x.write(at, b, 0) }

func (x *model) Sum(at uint32, n int) (uint64, bool) {
	b, _, ok := x.Peek(at, n)
	if !ok {
		return 0, false
	}
	h := uint64(14695981039346656037)
	for _, c := range b {
		h ^= uint64(c)
		h *= 1099511628211
	}
	return h, true
}

func (x *model) Mark() { x.changed = map[int]bool{} }

func (x *model) Changed() []int { return slices.Sorted(maps.Keys(x.changed)) }

// differ reports whether two models differ at an address.
func differ(a, b *model, at int) bool {
	inA, inB := a.isMapped(at/256), b.isMapped(at/256)
	return inA != inB || a.bytes[uint32(at)] != b.bytes[uint32(at)]
}

func modelDiff(a, b *model) []api.Span {
	pages := map[int]bool{}
	for n := range a.rights {
		pages[n] = true
	}
	for n := range b.rights {
		pages[n] = true
	}
	var l []api.Span
	for _, n := range slices.Sorted(maps.Keys(pages)) {
		for at := n * 256; at < n*256+256; at++ {
			if !differ(a, b, at) {
				continue
			}
			if at > 0 && differ(a, b, at-1) {
				l[len(l)-1].N++
			} else {
				l = append(l, api.Span{At: uint32(at), N: 1})
			}
		}
	}
	return l
}

// P5.1 to P5.4: what calls return is what the model returns, also of memories that Load, Clone or nothing has made.
func TestModel(t *testing.T) {
	for seed := range uint64(300) {
		r := random(seed)
		m, x := mem.New(), newModel()
		if isOneIn(r, 3) {
			m = &mem.Mem{}
		}
		for range 150 {
			switch r.IntN(30) {
			case 0:
				m = m.Clone()
			case 1:
				m = loaded(t, m.Save()...)
				x.Mark()
			default:
				a := randomAct(r)
				if got, want := a.do(m), a.do(x); got != want {
					t.Fatalf("seed %d: %s: %s, want %s", seed, a.name, got, want)
				}
			}
		}
		if got, want := m.Save(), x.Save(); !isEqual(got, want) {
			t.Fatalf("seed %d: Save: %v, want %v", seed, got, want)
		}
		if got, want := m.Changed(), x.Changed(); !slices.Equal(got, want) {
			t.Fatalf("seed %d: Changed: %v, want %v", seed, got, want)
		}
	}
}

// P5.1, P5.4: Same and Diff of memories that have a past in common, and of those that have none.
func TestModelOfTwo(t *testing.T) {
	same, spans := 0, 0
	for seed := range uint64(600) {
		r := random(seed)
		m, x := mem.New(), newModel()
		for range 60 {
			a := randomChange(r)
			a.do(m)
			a.do(x)
		}
		n, y := m.Clone(), x.clone()
		if isOneIn(r, 5) {
			n, y = mem.New(), newModel()
		}
		for range r.IntN(8) {
			a, b := randomChange(r), randomChange(r)
			a.do(m)
			a.do(x)
			b.do(n)
			b.do(y)
		}
		isSame := isEqual(x.Save(), y.Save())
		if mem.Same(m, n) != isSame || mem.Same(n, m) != isSame {
			t.Fatalf("seed %d: Same: %v, want %v", seed, !isSame, isSame)
		}
		want := modelDiff(x, y)
		if got := mem.Diff(m, n); !slices.Equal(got, want) {
			t.Fatalf("seed %d: Diff: %v, want %v", seed, got, want)
		}
		if isSame {
			same++
		}
		spans += len(want)
	}
	if same < 50 || spans < 500 {
		t.Errorf("only %d same memories, %d spans", same, spans)
	}
}

// The random calls change everything, and fail in every way (but by the limit).
func TestRandomChanges(t *testing.T) {
	count := map[string]int{}
	for seed := range uint64(100) {
		r := random(seed)
		x := newModel()
		for range 200 {
			a := randomChange(r)
			name, _, _ := strings.Cut(a.name, "(")
			result := a.do(x)
			if strings.HasSuffix(result, " false") {
				result = "bad"
			}
			count[name+" "+result]++
		}
	}
	for _, key := range []string{"Map 0", "Map 1", "Map 5", "Unmap 0", "Unmap 1", "Unmap 5", "Protect 0", "Protect 1", "Protect 5", "Write 0 true", "Write bad", "Poke 0 true", "Poke bad", "Mark "} {
		if count[key] < 100 {
			t.Errorf("%s: %d times: %v", key, count[key], count)
		}
	}
}
