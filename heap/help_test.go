package heap_test

import (
	"fmt"
	"math/rand/v2"
	"slices"
	"testing"

	"candling/api"
	"candling/heap"
)

func random(seed uint64) *rand.Rand { return rand.New(rand.NewPCG(seed, 6)) }

func pick[T any](r *rand.Rand, l ...T) T { return l[r.IntN(len(l))] }

// isOneIn is true once in n times.
func isOneIn(r *rand.Rand, n int) bool { return r.IntN(n) == 0 }

// empty is the heap of a valid configuration.
func empty(t *testing.T, c api.HeapConf) api.Heap {
	t.Helper()
	h, err := heap.New(c)
	if err != api.OK || heap.Check(h) != api.OK {
		t.Fatalf("New of %v: %v, %d", c, h, err)
	}
	return h
}

// exampleConf is the configuration of the chapter's examples.
func exampleConf() api.HeapConf { return api.HeapConf{Page: 1, N: 1, Red: 8, Quarantine: 40} }

// example is the heap of the chapter's examples behind the first three calls of Alloc.
func example(t *testing.T) api.Heap {
	t.Helper()
	h := empty(t, exampleConf())
	h = given(t, h, 10, 264)
	h = given(t, h, 0, 296)
	return given(t, h, 100, 320)
}

// given is a heap behind Alloc, which has to return an address.
func given(t *testing.T, h api.Heap, size int, want uint32) api.Heap {
	t.Helper()
	after, at, err := heap.Alloc(h, size)
	if at != want || err != api.OK || heap.Check(after) != api.OK {
		t.Fatalf("Alloc of %d: %d, %d, want %d", size, at, err, want)
	}
	return after
}

// freed is a heap behind Free, which has to succeed.
func freed(t *testing.T, h api.Heap, at uint32) api.Heap {
	t.Helper()
	after, err := heap.Free(h, at)
	if err != api.OK || heap.Check(after) != api.OK {
		t.Fatalf("Free of %d: %d", at, err)
	}
	return after
}

// isSame compares two heaps without the package's help.
func isSame(a, b api.Heap) bool {
	return a.Conf == b.Conf && a.Given == b.Given && slices.Equal(a.Live, b.Live) && slices.Equal(a.Quar, b.Quar)
}

// isZero reports whether a heap is the zero one.
func isZero(h api.Heap) bool { return h.Live == nil && h.Quar == nil && isSame(h, api.Heap{}) }

// wantHeap holds that a heap has these blocks, and nothing else.
func wantHeap(t *testing.T, h api.Heap, want api.Heap) {
	t.Helper()
	if !isSame(h, want) {
		t.Errorf("%v, want %v", h, want)
	}
}

// copied is a heap in memory of its own.
func copied(h api.Heap) api.Heap {
	h.Live, h.Quar = slices.Clone(h.Live), slices.Clone(h.Quar)
	return h
}

// call is a call that changes a heap.
type call struct {
	kind byte // 'a' Alloc, 'f' Free, 'r' Resize
	at   uint32
	size int
}

func (c call) String() string { return fmt.Sprintf("%c at %d, size %d", c.kind, c.at, c.size) }

// do makes the call.
func (c call) do(h api.Heap) (api.Heap, uint32, api.Errno) {
	switch c.kind {
	case 'a':
		return heap.Alloc(h, c.size)
	case 'f':
		after, err := heap.Free(h, c.at)
		return after, 0, err
	}
	return heap.Resize(h, c.at, c.size)
}

// randomConf is a valid configuration of few pages.
func randomConf(r *rand.Rand) api.HeapConf {
	n := pick(r, 0, 1, 1, 2, 2, 3, 4, 8)
	return api.HeapConf{
		Page:       pick(r, 1, 2, 64, 1+r.IntN(1<<23), 1<<24-n-1, 1<<24-max(n, 1)),
		N:          n,
		Red:        pick(r, 0, 0, 1, 4, 8, 8, 16, 64, r.IntN(65)),
		Quarantine: pick(r, 0, 0, 1, 40, 100, 300, 65536, r.IntN(500)),
	}
}

// randomSize is small most of the time, and seldom no size at all.
func randomSize(r *rand.Rand) int {
	if isOneIn(r, 40) {
		return pick(r, -1, 65536, 65537, -1<<63, 1<<63-1)
	}
	return pick(r, 0, 1, 7, 8, 9, r.IntN(20), r.IntN(60), r.IntN(300))
}

// randomAt is where a live block begins most of the time, or near a place of some kind.
func randomAt(r *rand.Rand, h api.Heap) uint32 {
	all := slices.Concat(h.Live, h.Quar)
	if len(h.Live) > 0 && !isOneIn(r, 6) {
		return pick(r, h.Live...).At
	}
	if len(all) > 0 && !isOneIn(r, 4) {
		b := pick(r, all...)
		return b.At + uint32(pick(r, 0, 1, -1, -8, 8, b.Size, b.Size-1, b.Size+1, -h.Conf.Red, -h.Conf.Red-1, b.Size+h.Conf.Red))
	}
	return randomAddress(r, h)
}

// randomAddress is anywhere in the region, or near its ends, or far from it.
func randomAddress(r *rand.Rand, h api.Heap) uint32 {
	from, n := uint32(h.Conf.Page)*256, h.Conf.N*256
	return pick(r, from+uint32(r.IntN(n+1)), from+uint32(r.IntN(20)-10), from+uint32(n+r.IntN(20)-10), r.Uint32(), 0, 1<<32-1)
}

// randomCall gives out more than it takes back.
func randomCall(r *rand.Rand, h api.Heap) call {
	return call{kind: pick(r, byte('a'), 'a', 'a', 'f', 'f', 'r'), at: randomAt(r, h), size: randomSize(r)}
}

// randomHeap is a heap that many calls have changed.
func randomHeap(t *testing.T, r *rand.Rand) api.Heap {
	t.Helper()
	h := empty(t, randomConf(r))
	for range r.IntN(40) {
		if after, _, err := randomCall(r, h).do(h); err == api.OK {
			h = after
		}
	}
	return h
}

// spoil changes something of a heap, which is seldom valid then.
func spoil(r *rand.Rand, h *api.Heap) {
	l := &h.Live
	if isOneIn(r, 2) {
		l = &h.Quar
	}
	if len(*l) == 0 || isOneIn(r, 4) {
		spoilNumbers(r, h)
		return
	}
	i, k := r.IntN(len(*l)), r.IntN(len(*l))
	switch b := &(*l)[i]; r.IntN(5) {
	case 0:
		b.At += uint32(pick(r, -8, 8, 1, -1, 4, 256))
	case 1:
		b.Size += pick(r, -1, 1, -b.Size-1, 8, 65536, 1<<40)
	case 2:
		b.Born = pick(r, 0, b.Born+1, b.Born-1, h.Given+1, -1, (*l)[k].Born)
	case 3:
		(*l)[i], (*l)[k] = (*l)[k], (*l)[i]
	case 4:
		*l = append(*l, *b)
	}
}

// spoilNumbers changes something of a heap that is not a block.
func spoilNumbers(r *rand.Rand, h *api.Heap) {
	switch r.IntN(6) {
	case 0:
		h.Given += pick(r, -1, 1, -h.Given-1, 1<<30)
	case 1:
		h.Conf.Red += pick(r, -1, 1, 8, 65)
	case 2:
		h.Conf.Quarantine += pick(r, -1, 1, -40, 65537)
	case 3:
		h.Conf.Page += pick(r, -1, 1, 2, 1<<24)
	case 4:
		h.Conf.N += pick(r, -1, 1, 2)
	case 5:
		h.Live, h.Quar = h.Quar, h.Live
	}
}
