package heap_test

import (
	"math"
	"slices"
	"testing"

	"candling/api"
	"candling/heap"
)

// P6.1 to P6.3: the chapter's examples.
func TestExamples(t *testing.T) {
	h := example(t)
	if l := heap.Gaps(h); !slices.Equal(l, []api.Span{{At: 282, N: 6}, {At: 305, N: 7}, {At: 428, N: 84}}) {
		t.Errorf("Gaps: %v", l)
	}
	if s := heap.Stat(h); s != (api.HeapStat{Live: 3, Bytes: 110, Gaps: 3, GapBytes: 97, Largest: 64}) {
		t.Errorf("Stat: %v", s)
	}
	for at, want := range map[uint32]api.Near{
		263: {Kind: api.NrRed, Off: -1},
		264: {Kind: api.NrLive},
		296: {Kind: api.NrRed, Index: 1},
		430: {},
	} {
		if got := heap.Find(h, at); got != want {
			t.Errorf("Find of %d: %v, want %v", at, got, want)
		}
	}
	wantOutside(t, h, 264, 20, 274, true)
	h = freed(t, h, 264)
	wantHeap(t, h, api.Heap{
		Conf:  exampleConf(),
		Live:  []api.Piece{{At: 296, Born: 2}, {At: 320, Size: 100, Born: 3}},
		Quar:  []api.Piece{{At: 264, Size: 10, Born: 1}},
		Given: 3,
	})
	h = given(t, h, 10, 440)
	h = freed(t, h, 320)
	if len(h.Quar) > 0 {
		t.Errorf("in quarantine: %v", h.Quar)
	}
	h = given(t, h, 10, 264)
	wantErrors(t, h, call{'f', 265, 0}, api.ErrFree)
	wantErrors(t, h, call{'a', 0, 65537}, api.ErrArg)
	wantErrors(t, h, call{'a', 0, -1}, api.ErrArg)
}

// wantErrors holds that a call has an error, and no other result.
func wantErrors(t *testing.T, h api.Heap, c call, want api.Errno) {
	t.Helper()
	if after, at, err := c.do(h); !isZero(after) || at != 0 || err != want {
		t.Errorf("%s: %v, %d, %d, want %d", c, after, at, err, want)
	}
}

func wantOutside(t *testing.T, h api.Heap, at uint32, n int, want uint32, is bool) {
	t.Helper()
	if got, found := heap.Outside(h, at, n); got != want || found != is {
		t.Errorf("Outside of %d bytes at %d: %d, %v, want %d, %v", n, at, got, found, want, is)
	}
}

// P6.1: configurations, and the heaps of them.
func TestNew(t *testing.T) {
	for _, c := range []api.HeapConf{
		{Page: 1},
		{Page: 1, N: 2000, Red: 64, Quarantine: 65536},
		{Page: 1<<24 - 1},
		{Page: 1<<24 - 1, N: 1},
		{Page: 1<<24 - 2000, N: 2000},
		exampleConf(),
	} {
		wantHeap(t, empty(t, c), api.Heap{Conf: c})
	}
	for _, c := range []api.HeapConf{
		{},
		{Page: 0, N: 1},
		{Page: -1, N: 3},
		{Page: 1 << 24},
		{Page: 1<<24 - 1, N: 2},
		{Page: 1<<24 - 1999, N: 2000},
		{Page: 1, N: -1},
		{Page: 1, N: 2001},
		{Page: 1, N: math.MaxInt},
		{Page: math.MaxInt, N: math.MaxInt},
		{Page: math.MinInt, N: math.MinInt},
		{Page: 1, N: 1, Red: -1},
		{Page: 1, N: 1, Red: 65},
		{Page: 1, N: 1, Red: math.MinInt},
		{Page: 1, N: 1, Quarantine: -1},
		{Page: 1, N: 1, Quarantine: 65537},
		{Page: 1, N: 1, Quarantine: math.MaxInt},
	} {
		if h, err := heap.New(c); !isZero(h) || err != api.ErrArg {
			t.Errorf("New of %v: %v, %d", c, h, err)
		}
		if err := heap.Check(api.Heap{Conf: c}); err != api.ErrHeap {
			t.Errorf("Check of a heap of %v: %d", c, err)
		}
	}
}

// edged is a valid heap of which each block touches another one, or an end of the region, which is from 512 to 2559.
func edged() api.Heap {
	return api.Heap{
		Conf:  api.HeapConf{Page: 2, N: 8, Red: 8, Quarantine: 960},
		Live:  []api.Piece{{At: 520, Size: 16, Born: 7}, {At: 1552, Size: 1000, Born: 3}},
		Quar:  []api.Piece{{At: 576, Size: 960, Born: 4}, {At: 552, Size: 0, Born: 9}},
		Given: 9,
	}
}

// P6.1: valid heaps at the edges of what is valid, and others just beyond them.
func TestCheck(t *testing.T) {
	for _, c := range []struct {
		name   string
		change func(h *api.Heap)
		want   api.Errno
	}{
		{"as it is", func(h *api.Heap) {}, api.OK},
		{"the zero heap", func(h *api.Heap) { *h = api.Heap{} }, api.ErrHeap},
		{"no blocks", func(h *api.Heap) { h.Live, h.Quar, h.Given = nil, []api.Piece{}, 0 }, api.OK},
		{"Given negative", func(h *api.Heap) { h.Live, h.Quar, h.Given = nil, nil, -1 }, api.ErrHeap},
		{"Given of 2^30", func(h *api.Heap) { h.Given = 1 << 30 }, api.OK},
		{"Given beyond 2^30", func(h *api.Heap) { h.Given = 1<<30 + 1 }, api.ErrHeap},
		{"Born beyond Given", func(h *api.Heap) { h.Live[0].Born = 10 }, api.ErrHeap},
		{"Born beyond Given, in quarantine", func(h *api.Heap) { h.Given = 8 }, api.ErrHeap},
		{"Born 1", func(h *api.Heap) { h.Live[0].Born = 1 }, api.OK},
		{"Born 0", func(h *api.Heap) { h.Live[0].Born = 0 }, api.ErrHeap},
		{"Born negative", func(h *api.Heap) { h.Quar[1].Born = math.MinInt }, api.ErrHeap},
		{"Born twice", func(h *api.Heap) { h.Live[1].Born = 7 }, api.ErrHeap},
		{"Born twice in quarantine", func(h *api.Heap) { h.Quar[1].Born = 4 }, api.ErrHeap},
		{"Born twice, in both lists", func(h *api.Heap) { h.Quar[0].Born = 3 }, api.ErrHeap},
		{"Live out of order", func(h *api.Heap) { slices.Reverse(h.Live) }, api.ErrHeap},
		{"Quar in another order", func(h *api.Heap) { slices.Reverse(h.Quar) }, api.OK},
		{"one in quarantine in the way of the next one", func(h *api.Heap) { h.Quar[1].At = 560 }, api.ErrHeap},
		{"two at one address", func(h *api.Heap) { h.Live = append(h.Live, api.Piece{At: 1552, Born: 1}) }, api.ErrHeap},
		{"at the first address", func(h *api.Heap) { h.Conf.Red = 0; h.Live[0].At = 512 }, api.OK},
		{"red zone ahead of the region", func(h *api.Heap) { h.Live[0].At = 512 }, api.ErrHeap},
		{"red zone ahead of address 0", func(h *api.Heap) { h.Live[0].At = 0 }, api.ErrHeap},
		{"red zone behind the region", func(h *api.Heap) { h.Live[1].Size++ }, api.ErrHeap},
		{"behind the region", func(h *api.Heap) { h.Live[1].At = 1 << 31 }, api.ErrHeap},
		{"at the last multiple of 8", func(h *api.Heap) { h.Live[1] = api.Piece{At: 1<<32 - 8, Size: 65536, Born: 3} }, api.ErrHeap},
		{"at another multiple of 8", func(h *api.Heap) { h.Live[1] = api.Piece{At: 2000, Size: 1, Born: 3} }, api.OK},
		{"at a multiple of 4", func(h *api.Heap) { h.Live[1] = api.Piece{At: 2004, Size: 1, Born: 3} }, api.ErrHeap},
		{"at no multiple, in quarantine", func(h *api.Heap) { h.Quar[0] = api.Piece{At: 577, Size: 1, Born: 4} }, api.ErrHeap},
		{"size negative", func(h *api.Heap) { h.Live[1].Size = -1 }, api.ErrHeap},
		{"size negative, in quarantine", func(h *api.Heap) { h.Quar[1].Size = -1 }, api.ErrHeap},
		{"sizes that overflow", func(h *api.Heap) { h.Quar[0].Size, h.Quar[1].Size = math.MaxInt, math.MaxInt }, api.ErrHeap},
		{"a size beyond the region", func(h *api.Heap) { h.Live[1].Size = math.MaxInt }, api.ErrHeap},
		{"red zones that meet", func(h *api.Heap) { h.Live[0].Size++ }, api.ErrHeap},
		{"red zones in quarantine that meet", func(h *api.Heap) { h.Quar[0].Size++; h.Conf.Quarantine++ }, api.ErrHeap},
		{"a size of 0 occupies a byte", func(h *api.Heap) { h.Quar[1].Size = 1; h.Conf.Quarantine++ }, api.OK},
		{"up to the next one", func(h *api.Heap) { h.Quar[1].Size = 8; h.Conf.Quarantine += 8 }, api.OK},
		{"beyond the next one", func(h *api.Heap) { h.Quar[1].Size = 9; h.Conf.Quarantine += 9 }, api.ErrHeap},
		{"one in another one", func(h *api.Heap) { h.Quar[1].At = 1800 }, api.ErrHeap},
		{"one where another one is", func(h *api.Heap) { h.Live[0].At = 552; h.Live[0].Size = 0 }, api.ErrHeap},
		{"quarantine too full", func(h *api.Heap) { h.Conf.Quarantine = 959 }, api.ErrHeap},
	} {
		h := edged()
		c.change(&h)
		if err := heap.Check(h); err != c.want {
			t.Errorf("%s: %d, want %d", c.name, err, c.want)
		}
		if c.want != api.OK {
			wantNothing(t, h)
		}
	}
}

// wantNothing holds that no function has a result for a heap that is not valid, whatever else is wrong.
func wantNothing(t *testing.T, h api.Heap) {
	t.Helper()
	for _, kind := range []byte("afr") {
		for _, at := range []uint32{520, 521, 0} {
			for _, size := range []int{1, -1, 65537} {
				wantErrors(t, h, call{kind, at, size}, api.ErrHeap)
			}
		}
	}
	for _, at := range []uint32{520, 521, 0} {
		if n, err := heap.Size(h, at); n != 0 || err != api.ErrHeap {
			t.Errorf("Size: %d, %d", n, err)
		}
		if x := heap.Find(h, at); x != (api.Near{}) {
			t.Errorf("Find: %v", x)
		}
		wantOutside(t, h, at, 100, 0, false)
	}
	if l := heap.Gaps(h); len(l) > 0 {
		t.Errorf("Gaps: %v", l)
	}
	if s := heap.Stat(h); s != (api.HeapStat{}) {
		t.Errorf("Stat: %v", s)
	}
}

// lined is a heap of live blocks, and of others in quarantine, all of one size, one behind the other.
func lined(live, quar, size int) api.Heap {
	h := api.Heap{Conf: api.HeapConf{Page: 1, N: 2000, Quarantine: 65536}, Given: live + quar}
	for i := range live + quar {
		b := api.Piece{At: uint32(256 + i*max(8, (size+7)/8*8)), Size: size, Born: live + quar - i}
		if i < live {
			h.Live = append(h.Live, b)
		} else {
			h.Quar = append(h.Quar, b)
		}
	}
	return h
}

// P6.1: how many blocks, of which sizes, a valid heap has.
func TestCheckOfMany(t *testing.T) {
	for _, c := range []struct {
		live, quar, size int
		want             api.Errno
	}{
		{1000, 1000, 0, api.OK},
		{1000, 1000, 65, api.OK},
		{1000, 1000, 66, api.ErrHeap},
		{1001, 0, 1, api.ErrHeap},
		{0, 1001, 0, api.ErrHeap},
		{0, 1, 65536, api.OK},
		{0, 2, 65536, api.ErrHeap},
		{7, 0, 65536, api.OK},
		{7, 0, 65537, api.ErrHeap},
		{8, 0, 65536, api.ErrHeap},
	} {
		if err := heap.Check(lined(c.live, c.quar, c.size)); err != c.want {
			t.Errorf("%d and %d blocks of %d: %d, want %d", c.live, c.quar, c.size, err, c.want)
		}
	}
}

// P6.1: what makes heaps, also those that are not valid, the same.
func TestSame(t *testing.T) {
	for _, h := range []api.Heap{{}, edged(), lined(3, 2, 5), {Given: -1, Live: []api.Piece{{Born: 5}, {At: 3}}, Quar: []api.Piece{{Size: -1}}}} {
		if !heap.Same(h, copied(h)) || !heap.Same(h, h) {
			t.Errorf("%v is not the same", h)
		}
		for i, change := range []func(x *api.Heap){
			func(x *api.Heap) { x.Conf.Page++ },
			func(x *api.Heap) { x.Conf.N++ },
			func(x *api.Heap) { x.Conf.Red++ },
			func(x *api.Heap) { x.Conf.Quarantine++ },
			func(x *api.Heap) { x.Given++ },
			func(x *api.Heap) { x.Live = append(x.Live, api.Piece{}) },
			func(x *api.Heap) { x.Quar = append(x.Quar, api.Piece{}) },
			func(x *api.Heap) { x.Live = changedLast(x.Live, api.Piece{At: 8}) },
			func(x *api.Heap) { x.Live = changedLast(x.Live, api.Piece{Size: 1}) },
			func(x *api.Heap) { x.Live = changedLast(x.Live, api.Piece{Born: 1}) },
			func(x *api.Heap) { x.Quar = changedLast(x.Quar, api.Piece{At: 8}) },
			func(x *api.Heap) { x.Quar = changedLast(x.Quar, api.Piece{Size: 1}) },
			func(x *api.Heap) { x.Quar = changedLast(x.Quar, api.Piece{Born: 1}) },
		} {
			other := copied(h)
			change(&other)
			if heap.Same(h, other) || heap.Same(other, h) {
				t.Errorf("change %d: %v is the same as %v", i, h, other)
			}
		}
	}
	if a := edged(); heap.Same(api.Heap{Live: a.Live}, api.Heap{Quar: a.Live}) || heap.Same(api.Heap{Live: a.Live[:1]}, api.Heap{Live: a.Live}) {
		t.Error("other lists are the same")
	}
	if !heap.Same(api.Heap{Live: []api.Piece{}}, api.Heap{Quar: []api.Piece{}}) {
		t.Error("nil lists and empty ones are not the same")
	}
	swapped := edged()
	slices.Reverse(swapped.Quar)
	if heap.Same(edged(), swapped) {
		t.Error("another order is the same")
	}
}

// changedLast returns blocks with something added to the last one; there is one more if there is none.
func changedLast(l []api.Piece, by api.Piece) []api.Piece {
	if len(l) == 0 {
		return []api.Piece{by}
	}
	last := &l[len(l)-1]
	*last = api.Piece{At: last.At + by.At, Size: last.Size + by.Size, Born: last.Born + by.Born}
	return l
}

// P6.2: which error comes first.
func TestErrorsInOrder(t *testing.T) {
	full := lined(1000, 0, 8)
	last := lined(1, 0, 8)
	last.Given = 1 << 30
	none := lined(1, 0, 8)
	none.Conf.N = 1
	for name, h := range map[string]api.Heap{"1000 blocks": full, "2^30 given": last, "few bytes": none} {
		if err := heap.Check(h); err != api.OK {
			t.Fatalf("%s: %d", name, err)
		}
		wantErrors(t, h, call{'a', 0, 300}, api.ErrLimit)
		wantErrors(t, h, call{'a', 0, 65536}, api.ErrLimit)
		wantErrors(t, h, call{'a', 0, 65537}, api.ErrArg)
		wantErrors(t, h, call{'a', 0, math.MinInt}, api.ErrArg)
		wantErrors(t, h, call{'a', 0, math.MaxInt}, api.ErrArg)
		wantErrors(t, h, call{'r', 256, 300}, api.ErrLimit)
		wantErrors(t, h, call{'r', 256, 65537}, api.ErrArg)
		wantErrors(t, h, call{'r', 256, -1}, api.ErrArg)
		for _, at := range []uint32{255, 257, 0, 1 << 31} {
			wantErrors(t, h, call{'r', at, 300}, api.ErrFree)
			wantErrors(t, h, call{'r', at, -1}, api.ErrFree)
			wantErrors(t, h, call{'f', at, 0}, api.ErrFree)
			if n, err := heap.Size(h, at); n != 0 || err != api.ErrFree {
				t.Errorf("%s: Size: %d, %d", name, n, err)
			}
		}
	}
}

// P6.2, P6.6: what is in quarantine cannot be freed, resized or asked for its size.
func TestFreedTwice(t *testing.T) {
	h := freed(t, example(t), 264)
	if len(h.Quar) != 1 {
		t.Fatalf("in quarantine: %v", h.Quar)
	}
	wantErrors(t, h, call{'f', 264, 0}, api.ErrFree)
	wantErrors(t, h, call{'r', 264, 1}, api.ErrFree)
	if n, err := heap.Size(h, 264); n != 0 || err != api.ErrFree {
		t.Errorf("Size: %d, %d", n, err)
	}
	for at, want := range map[uint32]int{296: 0, 320: 100} {
		if n, err := heap.Size(h, at); n != want || err != api.OK {
			t.Errorf("Size of %d: %d, %d", at, n, err)
		}
	}
}

// P6.2: up to 1000 live blocks and up to number 2^30.
func TestLimits(t *testing.T) {
	h := given(t, lined(999, 1000, 8), 0, 256+1999*8)
	wantErrors(t, h, call{'a', 0, 0}, api.ErrLimit)
	h = given(t, freed(t, h, 264), 8, 256+999*8)
	if len(h.Live) != 1000 || h.Live[998].Born != 2001 {
		t.Errorf("%d blocks: %v", len(h.Live), h.Live[998])
	}
	h = lined(1, 0, 8)
	h.Given = 1<<30 - 1
	h = given(t, h, 8, 264)
	if h.Given != 1<<30 || h.Live[1].Born != 1<<30 {
		t.Errorf("%v", h)
	}
	wantErrors(t, h, call{'a', 0, 8}, api.ErrLimit)
	freed(t, h, 264)
}

// P6.2: Resize has both blocks for a while.
func TestResizeOfTheLast(t *testing.T) {
	h := empty(t, api.HeapConf{Page: 1, N: 1})
	h = given(t, h, 128, 256)
	after, at, err := heap.Resize(h, 256, 128)
	if at != 384 || err != api.OK {
		t.Errorf("Resize: %d, %d", at, err)
	}
	wantHeap(t, after, api.Heap{Conf: h.Conf, Live: []api.Piece{{At: 384, Size: 128, Born: 2}}, Given: 2})
	wantErrors(t, h, call{'r', 256, 129}, api.ErrLimit)
	wantErrors(t, h, call{'r', 256, 256}, api.ErrLimit)
}

// P6.2, P6.6: how many blocks, and how many bytes, stay in quarantine.
func TestQuarantine(t *testing.T) {
	h := lined(2, 1000, 0)
	second := h.Quar[1]
	h = freed(t, h, 264)
	if len(h.Quar) != 1000 || h.Quar[0] != second || h.Quar[999] != (api.Piece{At: 264, Born: 1001}) {
		t.Errorf("%d blocks in quarantine, from %v to %v", len(h.Quar), h.Quar[0], h.Quar[999])
	}
	for quarantine, want := range map[int]int{0: 0, 9: 0, 10: 1, 109: 1, 110: 2, 65536: 2} {
		c := exampleConf()
		c.N, c.Quarantine = 4, quarantine
		h := given(t, given(t, empty(t, c), 100, 264), 10, 384)
		h = freed(t, freed(t, h, 264), 384)
		if len(h.Quar) != want || want > 0 && h.Quar[want-1].At != 384 {
			t.Errorf("%d bytes: %v", quarantine, h.Quar)
		}
	}
	h = given(t, empty(t, api.HeapConf{Page: 1, N: 1}), 0, 256)
	if h = freed(t, h, 256); len(h.Quar) != 1 {
		t.Errorf("a block without bytes: %v", h.Quar)
	}
	h = lined(2, 1, 8)
	h.Conf.Quarantine = 15
	if h = freed(t, h, 264); len(h.Quar) != 1 || h.Quar[0].At != 264 {
		t.Errorf("the older one stays: %v", h.Quar)
	}
	h = lined(1, 2, 8)
	h.Conf.Quarantine = 16
	h.Live[0].Size, h.Conf.Page, h.Live[0].At = 17, 1, 1024
	if h = freed(t, h, 1024); len(h.Quar) != 0 {
		t.Errorf("a block that is larger than the quarantine: %v", h.Quar)
	}
}

// P6.2, P6.3: a heap without pages, and one that ends with the last address.
func TestEnds(t *testing.T) {
	h := empty(t, api.HeapConf{Page: 1<<24 - 1})
	if s := heap.Stat(h); s != (api.HeapStat{Largest: -1}) || len(heap.Gaps(h)) > 0 {
		t.Errorf("no pages: %v, %v", s, heap.Gaps(h))
	}
	wantErrors(t, h, call{'a', 0, 0}, api.ErrLimit)
	wantOutside(t, h, 1<<32-256, 1, 1<<32-256, true)

	h = empty(t, api.HeapConf{Page: 1<<24 - 1, N: 1})
	if l := heap.Gaps(h); !slices.Equal(l, []api.Span{{At: 1<<32 - 256, N: 256}}) {
		t.Errorf("Gaps: %v", l)
	}
	h = given(t, h, 100, 1<<32-256)
	h = given(t, h, 152, 1<<32-152)
	if l := heap.Gaps(h); !slices.Equal(l, []api.Span{{At: 1<<32 - 156, N: 4}}) {
		t.Errorf("Gaps: %v", l)
	}
	if x := heap.Find(h, 1<<32-1); x != (api.Near{Kind: api.NrLive, Index: 1, Off: 151}) {
		t.Errorf("Find: %v", x)
	}
	wantOutside(t, h, 1<<32-152, 152, 0, false)
	wantOutside(t, h, 1<<32-152, 153, 0, true)
	wantOutside(t, h, 1<<32-1, 1, 0, false)
	wantOutside(t, h, 1<<32-1, math.MaxInt, 0, true)
	wantOutside(t, h, 1<<32-256, 200, 1<<32-156, true)
	wantOutside(t, h, 0, math.MaxInt, 0, true)
	wantErrors(t, h, call{'a', 0, 0}, api.ErrLimit)
}

// P6.3: addresses around blocks that stand side by side.
func TestFind(t *testing.T) {
	h := lined(2, 1, 10)
	h.Conf.Red, h.Conf.Quarantine = 2, 10
	h.Live[0].At, h.Live[1].At, h.Quar[0].At = 264, 280, 296
	for at, want := range map[uint32]api.Near{
		261: {},
		262: {Kind: api.NrRed, Off: -2},
		263: {Kind: api.NrRed, Off: -1},
		264: {Kind: api.NrLive},
		273: {Kind: api.NrLive, Off: 9},
		274: {Kind: api.NrRed, Off: 10},
		275: {Kind: api.NrRed, Off: 11},
		276: {},
		277: {},
		278: {Kind: api.NrRed, Index: 1, Off: -2},
		281: {Kind: api.NrLive, Index: 1, Off: 1},
		291: {Kind: api.NrRed, Index: 1, Off: 11},
		294: {Kind: api.NrQuarRed, Off: -2},
		296: {Kind: api.NrQuar},
		305: {Kind: api.NrQuar, Off: 9},
		307: {Kind: api.NrQuarRed, Off: 11},
		308: {},
		0:   {},
	} {
		if got := heap.Find(h, at); got != want {
			t.Errorf("Find of %d: %v, want %v", at, got, want)
		}
	}
	h.Live[0].Size, h.Quar[0].Size = 0, 0
	for at, want := range map[uint32]api.Near{
		262: {Kind: api.NrRed, Off: -2},
		264: {Kind: api.NrRed},
		266: {Kind: api.NrRed, Off: 2},
		267: {},
		296: {Kind: api.NrQuarRed},
		298: {Kind: api.NrQuarRed, Off: 2},
		299: {},
	} {
		if got := heap.Find(h, at); got != want {
			t.Errorf("sizes of 0: Find of %d: %v, want %v", at, got, want)
		}
	}
}

// P6.3: addresses outside of live blocks.
func TestOutside(t *testing.T) {
	h := lined(1000, 1, 8)
	end := uint32(256 + 8000)
	for _, n := range []int{0, -1, math.MinInt} {
		wantOutside(t, h, 0, n, 0, false)
		wantOutside(t, h, 256, n, 0, false)
	}
	wantOutside(t, h, 0, 1, 0, true)
	wantOutside(t, h, 255, 1, 255, true)
	wantOutside(t, h, 256, 1, 0, false)
	wantOutside(t, h, 256, 8000, 0, false)
	wantOutside(t, h, 256, 8001, end, true)
	wantOutside(t, h, 300, math.MaxInt, end, true)
	wantOutside(t, h, end, 1, end, true)
	wantOutside(t, h, end+7, 2, end+7, true)
	wantOutside(t, h, 1<<32-1, 1<<32, 1<<32-1, true)
	h = lined(3, 0, 5)
	wantOutside(t, h, 257, 4, 0, false)
	wantOutside(t, h, 257, 5, 261, true)
	wantOutside(t, h, 264, 100, 269, true)
}

// P6.3: the greatest size for which there is room.
func TestLargest(t *testing.T) {
	for _, c := range []struct {
		pages, red, want int
	}{
		{0, 0, -1}, {1, 0, 256}, {1, 8, 240}, {1, 1, 247}, {1, 9, 231}, {1, 64, 128},
		{256, 0, 65536}, {256, 1, 65527}, {257, 0, 65536}, {257, 64, 65536}, {2000, 3, 65536},
	} {
		h := empty(t, api.HeapConf{Page: 5, N: c.pages, Red: c.red})
		if s := heap.Stat(h); s.Largest != c.want || s.GapBytes != c.pages*256 {
			t.Errorf("%d pages, red zones of %d: %v, want %d", c.pages, c.red, s, c.want)
		}
	}
	h := given(t, empty(t, api.HeapConf{Page: 1, N: 1}), 247, 256)
	if s := heap.Stat(h); s.Largest != 8 || s.GapBytes != 9 {
		t.Errorf("8 bytes are left: %v", s)
	}
	h = given(t, h, 1, 504)
	if s := heap.Stat(h); s.Largest != -1 || s.Gaps != 2 || s.GapBytes != 8 {
		t.Errorf("nothing is left at a multiple of 8: %v", s)
	}
	h = given(t, empty(t, api.HeapConf{Page: 1, N: 1}), 248, 256)
	h = given(t, h, 7, 504)
	if s := heap.Stat(h); s.Largest != -1 || s.Gaps != 1 || s.GapBytes != 1 {
		t.Errorf("a byte is left: %v", s)
	}
}

// P6.2, P6.5: blocks of the greatest size.
func TestLargeBlocks(t *testing.T) {
	h := empty(t, api.HeapConf{Page: 3, N: 600, Red: 64, Quarantine: 65536})
	h = given(t, h, 65536, 832)
	h = given(t, h, 65536, 832+65536+128)
	if s := heap.Stat(h); s.Largest != 153600-2*(65536+128)-128 || s.Bytes != 131072 {
		t.Errorf("Stat: %v", s)
	}
	wantErrors(t, h, call{'a', 0, 65536}, api.ErrLimit)
	h = freed(t, h, 832)
	wantErrors(t, h, call{'a', 0, 65536}, api.ErrLimit)
	h = freed(t, h, 832+65536+128)
	given(t, h, 65536, 832)
}
