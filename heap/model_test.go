package heap_test

import (
	"slices"
	"testing"

	"candling/api"
	"candling/heap"
)

// region returns the addresses of a heap: from the first one up to the second one.
func region(c api.HeapConf) (int, int) { return 256 * c.Page, 256 * (c.Page + c.N) }

// extent returns the first and the last address of a block with its red zones.
func extent(b api.Piece, red int) (int, int) {
	return int(b.At) - red, int(b.At) + max(b.Size, 1) + red - 1
}

// taken returns for each address how many extents it lies in.
func taken(h api.Heap) map[int]int {
	count := map[int]int{}
	for _, b := range slices.Concat(h.Live, h.Quar) {
		first, last := extent(b, h.Conf.Red)
		for at := first; at <= last; at++ {
			count[at]++
		}
	}
	return count
}

// isValid says what the chapter says of valid heaps (of few pages), address by address.
func isValid(h api.Heap) bool {
	c := h.Conf
	if c.Page < 1 || c.Page > 1<<24-1 || c.N < 0 || c.N > 2000 || c.Page+c.N > 1<<24 {
		return false
	}
	if c.Red < 0 || c.Red > 64 || c.Quarantine < 0 || c.Quarantine > 65536 || h.Given < 0 || h.Given > 1<<30 {
		return false
	}
	if len(h.Live) > 1000 || len(h.Quar) > 1000 {
		return false
	}
	sum, all := 0, slices.Concat(h.Live, h.Quar)
	for i, b := range all {
		if b.At%8 != 0 || b.Size < 0 || b.Size > 65536 || b.Born < 1 || b.Born > h.Given {
			return false
		}
		if i > 0 && i < len(h.Live) && b.At <= h.Live[i-1].At {
			return false
		}
		if i >= len(h.Live) {
			sum += b.Size
		}
		for k, other := range all {
			if k != i && other.Born == b.Born {
				return false
			}
		}
	}
	from, to := region(c)
	for at, n := range taken(h) {
		if n > 1 || at < from || at >= to {
			return false
		}
	}
	return sum <= c.Quarantine
}

// hasRoom reports whether there is room for a block at an address, byte by byte.
func hasRoom(h api.Heap, count map[int]int, at, size int) bool {
	from, to := region(h.Conf)
	if at%8 != 0 {
		return false
	}
	first, last := extent(api.Piece{At: uint32(at), Size: size}, h.Conf.Red)
	for k := first; k <= last; k++ {
		if k < from || k >= to || count[k] > 0 {
			return false
		}
	}
	return true
}

// fit returns the least address at which there is room.
func fit(h api.Heap, size int) (int, bool) {
	from, to := region(h.Conf)
	count := taken(h)
	for at := from; at < to; at++ {
		if hasRoom(h, count, at, size) {
			return at, true
		}
	}
	return 0, false
}

func modelAlloc(h api.Heap, size int) (api.Heap, uint32, api.Errno) {
	if !isValid(h) {
		return api.Heap{}, 0, api.ErrHeap
	}
	if size < 0 || size > 65536 {
		return api.Heap{}, 0, api.ErrArg
	}
	at, found := fit(h, size)
	if len(h.Live) >= 1000 || h.Given >= 1<<30 || !found {
		return api.Heap{}, 0, api.ErrLimit
	}
	live := append(slices.Clone(h.Live), api.Piece{At: uint32(at), Size: size, Born: h.Given + 1})
	slices.SortFunc(live, func(a, b api.Piece) int { return int(a.At) - int(b.At) })
	return api.Heap{Conf: h.Conf, Live: live, Quar: h.Quar, Given: h.Given + 1}, uint32(at), api.OK
}

func modelFree(h api.Heap, at uint32) (api.Heap, api.Errno) {
	if !isValid(h) {
		return api.Heap{}, api.ErrHeap
	}
	after := api.Heap{Conf: h.Conf, Given: h.Given, Quar: slices.Clone(h.Quar)}
	for _, b := range h.Live {
		if b.At == at {
			after.Quar = append(after.Quar, b)
		} else {
			after.Live = append(after.Live, b)
		}
	}
	if len(after.Live) == len(h.Live) {
		return api.Heap{}, api.ErrFree
	}
	for len(after.Quar) > 1000 || sizes(after.Quar) > h.Conf.Quarantine {
		after.Quar = after.Quar[1:]
	}
	return after, api.OK
}

func sizes(l []api.Piece) int {
	sum := 0
	for _, b := range l {
		sum += b.Size
	}
	return sum
}

func modelResize(h api.Heap, at uint32, size int) (api.Heap, uint32, api.Errno) {
	if _, err := modelFree(h, at); err != api.OK {
		return api.Heap{}, 0, err
	}
	after, to, err := modelAlloc(h, size)
	if err != api.OK {
		return api.Heap{}, 0, err
	}
	after, err = modelFree(after, at)
	return after, to, err
}

// modelDo makes a call of the model.
func modelDo(c call, h api.Heap) (api.Heap, uint32, api.Errno) {
	switch c.kind {
	case 'a':
		return modelAlloc(h, c.size)
	case 'f':
		after, err := modelFree(h, c.at)
		return after, 0, err
	}
	return modelResize(h, c.at, c.size)
}

func modelSize(h api.Heap, at uint32) (int, api.Errno) {
	for _, b := range h.Live {
		if b.At == at {
			return b.Size, api.OK
		}
	}
	return 0, api.ErrFree
}

func modelFind(h api.Heap, at uint32) api.Near {
	for k, l := range [][]api.Piece{h.Live, h.Quar} {
		for i, b := range l {
			if first, last := extent(b, h.Conf.Red); int(at) < first || int(at) > last {
				continue
			}
			off := int(at) - int(b.At)
			kind := []int{api.NrRed, api.NrQuarRed}[k]
			if off >= 0 && off < b.Size {
				kind = []int{api.NrLive, api.NrQuar}[k]
			}
			return api.Near{Kind: kind, Index: i, Off: off}
		}
	}
	return api.Near{}
}

// modelOutside goes through the n addresses; it stops behind 2^13 of them, which no test's heap fills.
func modelOutside(h api.Heap, at uint32, n int) (uint32, bool) {
	in := map[uint32]bool{}
	for _, b := range h.Live {
		for k := range b.Size {
			in[b.At+uint32(k)] = true
		}
	}
	for k := range min(max(n, 0), 1<<13) {
		if !in[at+uint32(k)] {
			return at + uint32(k), true
		}
	}
	return 0, false
}

func modelGaps(h api.Heap) []api.Span {
	var l []api.Span
	count := taken(h)
	from, to := region(h.Conf)
	for at := from; at < to; at++ {
		switch {
		case count[at] > 0:
		case at > from && count[at-1] == 0:
			l[len(l)-1].N++
		default:
			l = append(l, api.Span{At: uint32(at), N: 1})
		}
	}
	return l
}

func modelStat(h api.Heap) api.HeapStat {
	s := api.HeapStat{Live: len(h.Live), Bytes: sizes(h.Live), Quar: len(h.Quar), QuarBytes: sizes(h.Quar), Largest: -1}
	for _, g := range modelGaps(h) {
		s.Gaps++
		s.GapBytes += g.N
	}
	for size := range 65537 {
		if _, found := fit(h, size); !found {
			break
		}
		s.Largest = size
	}
	return s
}

// P6.2: Alloc, Free and Resize do what the model does.
func TestModelOfCalls(t *testing.T) {
	count := map[string]int{}
	for seed := range uint64(300) {
		r := random(seed)
		h := empty(t, randomConf(r))
		for range 60 {
			c := randomCall(r, h)
			got, at, err := c.do(h)
			want, wantAt, wantErr := modelDo(c, h)
			if !isSame(got, want) || at != wantAt || err != wantErr {
				t.Fatalf("seed %d: %s of %v: %v, %d, %d, want %v, %d, %d", seed, c, h, got, at, err, want, wantAt, wantErr)
			}
			count[string(c.kind)+" "+map[api.Errno]string{api.OK: "OK", api.ErrArg: "Arg", api.ErrLimit: "Limit", api.ErrFree: "Free"}[err]]++
			if err == api.OK {
				h = got
			}
		}
	}
	for _, key := range []string{"a OK", "a Arg", "a Limit", "f OK", "f Free", "r OK", "r Arg", "r Limit", "r Free"} {
		if count[key] < 20 {
			t.Errorf("%s: %d times: %v", key, count[key], count)
		}
	}
}

// P6.3: Size, Find, Outside, Gaps and Stat return what the model returns.
func TestModelOfLooks(t *testing.T) {
	kinds, outside := map[int]int{}, map[bool]int{}
	for seed := range uint64(400) {
		r := random(seed)
		h := randomHeap(t, r)
		for range 40 {
			at, n := randomAt(r, h), pick(r, 0, -1, 1, 2, r.IntN(40), r.IntN(3000), 1<<63-1, -1<<63)
			size, err := heap.Size(h, at)
			if want, wantErr := modelSize(h, at); size != want || err != wantErr {
				t.Fatalf("seed %d: Size of %d in %v: %d, %d, want %d, %d", seed, at, h, size, err, want, wantErr)
			}
			near := heap.Find(h, at)
			if want := modelFind(h, at); near != want {
				t.Fatalf("seed %d: Find of %d in %v: %v, want %v", seed, at, h, near, want)
			}
			kinds[near.Kind]++
			bad, is := heap.Outside(h, at, n)
			if want, wantIs := modelOutside(h, at, n); bad != want || is != wantIs {
				t.Fatalf("seed %d: Outside of %d, %d in %v: %d, %v, want %d, %v", seed, at, n, h, bad, is, want, wantIs)
			}
			outside[is]++
		}
		if got, want := heap.Gaps(h), modelGaps(h); !slices.Equal(got, want) {
			t.Fatalf("seed %d: Gaps of %v: %v, want %v", seed, h, got, want)
		}
	}
	for kind := range 5 {
		if kinds[kind] < 100 {
			t.Errorf("Find: %v", kinds)
		}
	}
	if outside[false] < 100 || outside[true] < 100 {
		t.Errorf("Outside: %v", outside)
	}
}

// P6.3: the numbers of Stat are the model's.
func TestModelOfStat(t *testing.T) {
	none := 0
	for seed := range uint64(60) {
		h := randomHeap(t, random(seed))
		got, want := heap.Stat(h), modelStat(h)
		if got != want {
			t.Fatalf("seed %d: Stat of %v: %v, want %v", seed, h, got, want)
		}
		if got.Largest == -1 {
			none++
		}
	}
	if none == 0 {
		t.Error("there is always room")
	}
}

// P6.1: Check finds just the heaps that the model finds, when something of a heap is another.
func TestModelOfCheck(t *testing.T) {
	valid, not := 0, 0
	for seed := range uint64(4000) {
		r := random(seed)
		h := randomHeap(t, r)
		spoil(r, &h)
		err := heap.Check(h)
		if isValid(h) != (err == api.OK) || err != api.OK && err != api.ErrHeap {
			t.Fatalf("seed %d: Check of %v: %d", seed, h, err)
		}
		if err == api.OK {
			valid++
		} else {
			not++
		}
	}
	if valid < 500 || not < 1000 {
		t.Errorf("%d valid heaps, %d others", valid, not)
	}
}
