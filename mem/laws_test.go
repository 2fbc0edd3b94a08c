package mem_test

import (
	"bytes"
	"maps"
	"math"
	"slices"
	"sync"
	"testing"

	"candling/api"
	"candling/mem"
)

// note is what was done to one address: a byte was written there, or its page was mapped (a zero).
type note struct {
	at    uint32
	value byte
}

// P5.5: a byte is the last one that was written at its address since its page was mapped.
func TestBytesByAddresses(t *testing.T) {
	reads := 0
	for seed := range uint64(200) {
		r := random(seed)
		m := mem.New()
		var notes []note
		for range 60 {
			page, n, at, b := randomPage(r), randomCount(r), randomAddress(r), randomBytes(r, r.IntN(30))
			switch r.IntN(6) {
			case 0:
				if m.Map(page, n, randomRights(r)) == api.OK {
					for off := range n * 256 {
						notes = append(notes, note{uint32(page*256 + off), 0})
					}
				}
			case 1:
				m.Unmap(page, 1)
			case 2:
				m.Protect(page, n, randomRights(r))
			case 3:
				if isOneIn(r, 2) {
					m = m.Clone()
				}
			case 4:
				if _, ok := m.Poke(at, b); ok {
					notes = append(notes, written(at, b)...)
				}
			default:
				if _, ok := m.Write(at, b); ok {
					notes = append(notes, written(at, b)...)
				}
			}
		}
		last := map[uint32]byte{}
		for _, x := range notes {
			last[x.at] = x.value
		}
		for _, at := range slices.Sorted(maps.Keys(last)) {
			for _, read := range []reader{m.Read, m.Fetch, m.Both, m.Peek} {
				if b, _, ok := read(at, 1); ok {
					if b[0] != last[at] {
						t.Fatalf("seed %d: %d at %#x, want %d", seed, b[0], at, last[at])
					}
					reads++
				}
			}
		}
	}
	if reads < 10000 {
		t.Errorf("only %d bytes were read", reads)
	}
}

func written(at uint32, b []byte) []note {
	var l []note
	for k, x := range b {
		l = append(l, note{at + uint32(k), x})
	}
	return l
}

// way is a call that reads, or writes what is there, and the rights that it needs.
type way struct {
	name   string
	rights int
	do     func(m *mem.Mem, at uint32, b []byte) (uint32, bool)
}

func ways() []way {
	reading := func(read func(*mem.Mem, uint32, int) ([]byte, uint32, bool)) func(*mem.Mem, uint32, []byte) (uint32, bool) {
		return func(m *mem.Mem, at uint32, b []byte) (uint32, bool) {
			_, bad, ok := read(m, at, len(b))
			return bad, ok
		}
	}
	return []way{
		{"Read", 1, reading((*mem.Mem).Read)},
		{"Fetch", 4, reading((*mem.Mem).Fetch)},
		{"Both", 3, reading((*mem.Mem).Both)},
		{"Peek", 0, reading((*mem.Mem).Peek)},
		{"Write", 2, (*mem.Mem).Write},
		{"Poke", 0, (*mem.Mem).Poke},
	}
}

// has reports whether the page of an address has rights.
func has(m *mem.Mem, at uint32, rights int) bool {
	got, isMapped := m.Rights(int(at / 256))
	return isMapped && got&rights == rights
}

// P5.6: all or nothing, up to the first bad address.
func TestAllOrNothing(t *testing.T) {
	failures := 0
	for seed := range uint64(200) {
		r := random(seed)
		m := randomMemory(r)
		for range 20 {
			at, b := randomAddress(r), randomBytes(r, r.IntN(800))
			saved := m.Save()
			for _, w := range ways() {
				m.Mark()
				bad, ok := w.do(m, at, b)
				if ok {
					continue
				}
				failures++
				if !isEqual(m.Save(), saved) || len(m.Changed()) > 0 {
					t.Fatalf("seed %d: %s of %d at %#x fails, and changes something", seed, w.name, len(b), at)
				}
				if int(bad-at) >= len(b) || has(m, bad, w.rights) {
					t.Fatalf("seed %d: %s of %d at %#x: bad address %#x", seed, w.name, len(b), at, bad)
				}
				for k := range bad - at {
					if !has(m, at+k, w.rights) {
						t.Fatalf("seed %d: %s of %d at %#x: %#x is ahead of %#x", seed, w.name, len(b), at, at+k, bad)
					}
				}
			}
			m = loaded(t, saved...)
		}
	}
	if failures < 1000 {
		t.Errorf("only %d failures", failures)
	}
}

// P5.7: bytes are read and written in pieces, or all at once.
func TestPieces(t *testing.T) {
	reads, writes := 0, 0
	for seed := range uint64(200) {
		r := random(seed)
		m := randomMemory(r)
		for range 20 {
			at, n, k := randomAddress(r), r.IntN(600), r.IntN(600)
			for _, read := range []reader{m.Read, m.Fetch, m.Both, m.Peek} {
				all, bad, ok := read(at, n+k)
				first, bad1, ok1 := read(at, n)
				second, bad2, ok2 := read(at+uint32(n), k)
				if ok != (ok1 && ok2) || ok && !bytes.Equal(all, append(first, second...)) {
					t.Fatalf("seed %d: %d and %d bytes at %#x: %v, %v, %v", seed, n, k, at, ok, ok1, ok2)
				}
				if !ok1 && bad != bad1 || ok1 && !ok2 && bad != bad2 {
					t.Fatalf("seed %d: %d and %d bytes at %#x: %#x, %#x, %#x", seed, n, k, at, bad, bad1, bad2)
				}
				if ok {
					reads++
				}
			}
			whole, inPieces, b := m.Clone(), m.Clone(), randomBytes(r, n+k)
			if _, ok := whole.Write(at, b); !ok {
				continue
			}
			writes++
			for off := 0; off < len(b); {
				size := min(1+r.IntN(300), len(b)-off)
				if _, ok := inPieces.Write(at+uint32(off), b[off:off+size]); !ok {
					t.Fatalf("seed %d: a piece of %d at %#x cannot be written", seed, len(b), at)
				}
				off += size
			}
			if !mem.Same(whole, inPieces) || !slices.Equal(whole.Changed(), inPieces.Changed()) {
				t.Fatalf("seed %d: %d at %#x, written in pieces, are not the same", seed, len(b), at)
			}
		}
	}
	if reads < 500 || writes < 200 {
		t.Errorf("only %d reads, %d writes", reads, writes)
	}
}

// P5.8: with more rights as much can be done, and Protect changes no byte.
func TestMoreRights(t *testing.T) {
	successes := 0
	for seed := range uint64(200) {
		r := random(seed)
		m := randomMemory(r)
		more := m.Clone()
		for _, p := range m.Save() {
			if err := more.Protect(p.N, 1, p.Rights|r.IntN(8)); err != api.OK {
				t.Fatalf("Protect: %d", err)
			}
		}
		other := more.Clone()
		for _, p := range m.Save() {
			other.Protect(p.N, 1, r.IntN(8))
		}
		for _, p := range m.Save() {
			wantBytes(t, more.Peek, uint32(p.N*256), p.B...)
			wantBytes(t, other.Peek, uint32(p.N*256), p.B...)
		}
		for range 20 {
			at, n := randomAddress(r), r.IntN(600)
			for _, c := range [][2]reader{{m.Read, more.Read}, {m.Fetch, more.Fetch}, {m.Both, more.Both}, {m.Peek, more.Peek}} {
				if b, _, ok := c[0](at, n); ok {
					wantBytes(t, c[1], at, b...)
					successes++
				}
			}
			b := randomBytes(r, n)
			if _, ok := m.Clone().Write(at, b); ok {
				if bad, ok := more.Clone().Write(at, b); !ok {
					t.Fatalf("seed %d: with more rights not written: %#x", seed, bad)
				}
			}
		}
	}
	if successes < 500 {
		t.Errorf("only %d reads", successes)
	}
}

// P5.9: memories and their clones, and clones of these, are independent.
func TestClones(t *testing.T) {
	for seed := range uint64(200) {
		r := random(seed)
		m := randomMemory(r)
		family := []*mem.Mem{m, m.Clone(), m.Clone()}
		family = append(family, family[1].Clone())
		saved, changed := m.Save(), m.Changed()
		for i, x := range family {
			if !isEqual(x.Save(), saved) || !slices.Equal(x.Changed(), changed) || !mem.Same(x, m) {
				t.Fatalf("seed %d: the clone %d is not the same", seed, i)
			}
		}
		for range 30 {
			i := r.IntN(len(family))
			var pages [][]api.Page
			var marks [][]int
			for _, x := range family {
				pages, marks = append(pages, x.Save()), append(marks, x.Changed())
			}
			a := randomChange(r)
			a.do(family[i])
			for k, x := range family {
				if k != i && (!isEqual(x.Save(), pages[k]) || !slices.Equal(x.Changed(), marks[k])) {
					t.Fatalf("seed %d: %s of the memory %d changes the memory %d", seed, a.name, i, k)
				}
			}
			if isOneIn(r, 5) {
				family[r.IntN(len(family))] = family[i].Clone()
			}
		}
	}
}

// P5.9: goroutines can clone one memory, and change their clones, at the same time.
func TestClonesAtOnce(t *testing.T) {
	m := loaded(t, page(1, 3, 1), page(2, 3, 2))
	saved := m.Save()
	clones := make([]*mem.Mem, 8)
	var all sync.WaitGroup
	for i := range clones {
		all.Go(func() {
			c := m.Clone()
			for k := range 100 {
				c.Write(uint32(256+k), []byte{byte(i)})
				c = c.Clone()
			}
			clones[i] = c
		})
	}
	all.Wait()
	wantPages(t, m, saved...)
	for i, c := range clones {
		wantBytes(t, c.Read, 256, slices.Repeat([]byte{byte(i)}, 100)...)
		wantBytes(t, c.Read, 512, 2)
	}
}

// overwrite writes the bytes of one memory to another one, where both are mapped.
func overwrite(to, from *mem.Mem) {
	for _, p := range from.Save() {
		to.Poke(uint32(p.N*256), p.B)
	}
}

// P5.10: differences.
func TestDifferences(t *testing.T) {
	spans := 0
	for seed := range uint64(300) {
		r := random(seed)
		a := randomMemory(r)
		b := pick(r, a.Clone(), randomMemory(r))
		for range r.IntN(10) {
			randomChange(r).do(b)
		}
		l := mem.Diff(a, b)
		spans += len(l)
		if other := mem.Diff(b, a); !slices.Equal(l, other) {
			t.Fatalf("seed %d: %v, and the other way round %v", seed, l, other)
		}
		if len(mem.Diff(a, a)) > 0 || len(mem.Diff(b, b.Clone())) > 0 {
			t.Fatalf("seed %d: a memory differs from itself", seed)
		}
		end := -2
		for _, s := range l {
			if int(s.At) <= end || s.N < 1 || int(s.At)+s.N > 1<<32 {
				t.Fatalf("seed %d: %v", seed, l)
			}
			end = int(s.At) + s.N
		}
		if !maps.Equal(addressesOf(l), differing(a, b)) {
			t.Fatalf("seed %d: %v are not where they differ", seed, l)
		}
		overwrite(b, a)
		for _, s := range mem.Diff(a, b) {
			for k := range s.N {
				if at := s.At + uint32(k); has(a, at, 0) && has(b, at, 0) {
					t.Fatalf("seed %d: written from one to the other one, they differ at %#x", seed, at)
				}
			}
		}
	}
	if spans < 500 {
		t.Errorf("only %d spans", spans)
	}
}

// addressesOf returns the addresses of spans.
func addressesOf(l []api.Span) map[uint32]bool {
	in := map[uint32]bool{}
	for _, s := range l {
		for k := range s.N {
			in[s.At+uint32(k)] = true
		}
	}
	return in
}

// differing returns the addresses at which one of two memories is mapped, or both with different bytes.
func differing(a, b *mem.Mem) map[uint32]bool {
	in := map[uint32]bool{}
	for _, p := range append(a.Save(), b.Save()...) {
		for off := range 256 {
			at := uint32(p.N*256 + off)
			x, _, inA := a.Peek(at, 1)
			y, _, inB := b.Peek(at, 1)
			if inA != inB || x[0] != y[0] {
				in[at] = true
			}
		}
	}
	return in
}

// P5.11: back from pages to memories, and from memories to pages.
func TestBack(t *testing.T) {
	for seed := range uint64(300) {
		r := random(seed)
		m := randomMemory(r)
		n := loaded(t, m.Save()...)
		if !mem.Same(m, n) || len(mem.Diff(m, n)) > 0 || len(n.Changed()) > 0 {
			t.Fatalf("seed %d: Load of Save is not the same", seed)
		}
		var l []api.Page
		for number := r.IntN(3); number <= lastPage && len(l) < 20; number += pick(r, 1, 2, r.IntN(1<<22)+1) {
			l = append(l, api.Page{N: number, Rights: r.IntN(8), B: randomBytes(r, 256)})
		}
		if got := loaded(t, l...).Save(); !isEqual(got, l) {
			t.Fatalf("seed %d: Save of Load: %v, want %v", seed, got, l)
		}
	}
}

// P5.12: pages that have not changed are as they were at Mark.
func TestUnchanged(t *testing.T) {
	kept := 0
	for seed := range uint64(300) {
		r := random(seed)
		m := randomMemory(r)
		m.Mark()
		old := m.Clone()
		for range r.IntN(12) {
			if a := randomChange(r); a.name != "Mark" {
				a.do(m)
			}
		}
		changed := m.Changed()
		if !slices.IsSorted(changed) || len(slices.Compact(slices.Clone(changed))) != len(changed) {
			t.Fatalf("seed %d: Changed: %v", seed, changed)
		}
		for _, n := range []int{0, 1, 2, 3, 4, 5, 6, 1000, 1001, 1002, 1003, lastPage - 3, lastPage - 2, lastPage - 1, lastPage, math.MaxInt} {
			if slices.Contains(changed, n) {
				continue
			}
			rights, isMapped := m.Rights(n)
			if oldRights, wasMapped := old.Rights(n); rights != oldRights || isMapped != wasMapped {
				t.Fatalf("seed %d: the rights of %d were %d, %v, and are %d, %v", seed, n, oldRights, wasMapped, rights, isMapped)
			}
			if isMapped {
				b, _, _ := old.Peek(uint32(n*256), 256)
				wantBytes(t, m.Peek, uint32(n*256), b...)
				kept++
			}
		}
	}
	if kept < 300 {
		t.Errorf("only %d pages were kept", kept)
	}
}
