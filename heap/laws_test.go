package heap_test

import (
	"math/rand/v2"
	"slices"
	"testing"

	"candling/api"
	"candling/heap"
)

// follow makes random calls from New on, and shows each call that succeeds, with the heap ahead of it and the one behind it.
func follow(t *testing.T, seed uint64, show func(before, after api.Heap, c call, at uint32)) {
	t.Helper()
	r := random(seed)
	h := empty(t, randomConf(r))
	for range 60 {
		c := randomCall(r, h)
		if after, at, err := c.do(h); err == api.OK {
			show(h, after, c, at)
			h = after
		}
	}
}

// bornOf returns a block of a heap by its number, and whether it is live.
func bornOf(h api.Heap, born int) (api.Piece, bool) {
	for _, b := range h.Live {
		if b.Born == born {
			return b, true
		}
	}
	return api.Piece{}, false
}

// P6.4: blocks are apart.
func TestBlocksAreApart(t *testing.T) {
	bytes, zones := 0, 0
	for seed := range uint64(50) {
		follow(t, seed, func(_, h api.Heap, c call, _ uint32) {
			if err := heap.Check(h); err != api.OK || !isValid(h) {
				t.Fatalf("seed %d: behind %s: %d", seed, c, err)
			}
			for i, b := range h.Live {
				for off := -h.Conf.Red; off < b.Size+h.Conf.Red; off++ {
					near := heap.Find(h, b.At+uint32(off))
					if off >= 0 && off < b.Size {
						if near != (api.Near{Kind: api.NrLive, Index: i, Off: off}) {
							t.Fatalf("seed %d: behind %s: byte %d of %v: %v", seed, c, off, b, near)
						}
						bytes++
					} else {
						if near.Kind == api.NrLive {
							t.Fatalf("seed %d: behind %s: byte %d of %v: %v", seed, c, off, b, near)
						}
						zones++
					}
				}
			}
		})
	}
	if bytes < 10000 || zones < 10000 {
		t.Errorf("only %d bytes, %d bytes of red zones", bytes, zones)
	}
}

// hasRoomIn reports whether there is room for a block at an address, by the gaps of the heap.
func hasRoomIn(h api.Heap, at, size int) bool {
	first, last := extent(api.Piece{At: uint32(at), Size: size}, h.Conf.Red)
	return at%8 == 0 && slices.ContainsFunc(heap.Gaps(h), func(g api.Span) bool {
		return first >= int(g.At) && last < int(g.At)+g.N
	})
}

// P6.5: Alloc succeeds up to Largest, at the first address where there is room.
func TestFirstFit(t *testing.T) {
	for seed := range uint64(60) {
		r := random(seed)
		h := randomHeap(t, r)
		largest := heap.Stat(h).Largest
		for _, size := range []int{0, 1, 2, largest - 1, largest, largest + 1, largest + 8, r.IntN(200), 65536} {
			if size < 0 {
				continue
			}
			after, at, err := heap.Alloc(h, size)
			if size > largest {
				if err != api.ErrLimit || !isZero(after) || at != 0 {
					t.Fatalf("seed %d: Alloc of %d, more than %d: %d, %d", seed, size, largest, at, err)
				}
				continue
			}
			if err != api.OK || !hasRoomIn(h, int(at), size) {
				t.Fatalf("seed %d: Alloc of %d, at most %d: %d, %d", seed, size, largest, at, err)
			}
			for lower := h.Conf.Page * 256; lower < int(at); lower++ {
				if hasRoomIn(h, lower, size) {
					t.Fatalf("seed %d: Alloc of %d at %d: there is room at %d", seed, size, at, lower)
				}
			}
			if b, isLive := bornOf(after, h.Given+1); !isLive || b != (api.Piece{At: at, Size: size, Born: after.Given}) {
				t.Fatalf("seed %d: Alloc of %d at %d: %v", seed, size, at, after)
			}
		}
	}
}

// P6.6: the longest end of the old quarantine with the block behind it is in quarantine, and nothing else is put there.
func TestLongestEnd(t *testing.T) {
	left, met := 0, 0
	for seed := range uint64(300) {
		follow(t, seed, func(before, after api.Heap, c call, at uint32) {
			if c.kind == 'a' {
				if !slices.Equal(before.Quar, after.Quar) {
					t.Fatalf("seed %d: %s: %v in quarantine, then %v", seed, c, before.Quar, after.Quar)
				}
			} else {
				i := slices.IndexFunc(before.Live, func(b api.Piece) bool { return b.At == c.at })
				all := append(slices.Clone(before.Quar), before.Live[i])
				k := len(all) - len(after.Quar)
				if k < 0 || !slices.Equal(all[k:], after.Quar) || sizes(after.Quar) > before.Conf.Quarantine {
					t.Fatalf("seed %d: %s: %v in quarantine, then %v", seed, c, before.Quar, after.Quar)
				}
				if k > 0 && sizes(all[k-1:]) <= before.Conf.Quarantine {
					t.Fatalf("seed %d: %s: %v could stay in quarantine", seed, c, all[k-1])
				}
				left += k
			}
			if c.kind == 'f' {
				return
			}
			first, last := extent(api.Piece{At: at, Size: c.size}, before.Conf.Red)
			for _, b := range before.Quar {
				from, to := extent(b, before.Conf.Red)
				if first <= to && from <= last {
					t.Fatalf("seed %d: %s at %d meets %v in quarantine", seed, c, at, b)
				}
				met++
			}
		})
	}
	if left < 500 || met < 500 {
		t.Errorf("only %d blocks left the quarantine, %d were in it", left, met)
	}
}

// P6.7: each address of the region is in one gap, or in one extent, and all functions agree about it.
func TestPlaces(t *testing.T) {
	for seed := range uint64(150) {
		r := random(seed)
		h := randomHeap(t, r)
		count := taken(h)
		for _, g := range heap.Gaps(h) {
			for k := range g.N {
				at := int(g.At) + k
				count[at]++
				if near := heap.Find(h, uint32(at)); near != (api.Near{}) {
					t.Fatalf("seed %d: Find of %d in a gap: %v", seed, at, near)
				}
			}
		}
		from, to := region(h.Conf)
		if len(count) != to-from {
			t.Fatalf("seed %d: %d addresses, want %d", seed, len(count), to-from)
		}
		for at, n := range count {
			if n != 1 || at < from || at >= to {
				t.Fatalf("seed %d: %d is in %d gaps and extents", seed, at, n)
			}
			bad, is := heap.Outside(h, uint32(at), 1)
			isLive := heap.Find(h, uint32(at)).Kind == api.NrLive
			if is == isLive || is && bad != uint32(at) {
				t.Fatalf("seed %d: Outside of %d: %d, %v, and Find: %v", seed, at, bad, is, heap.Find(h, uint32(at)))
			}
		}
		for i, g := range heap.Gaps(h) {
			if g.N < 1 || i > 0 && int(heap.Gaps(h)[i-1].At)+heap.Gaps(h)[i-1].N >= int(g.At) {
				t.Fatalf("seed %d: gaps that are not the longest: %v", seed, heap.Gaps(h))
			}
		}
	}
}

// P6.8: a block that does not fit into the quarantine is given out and freed.
func TestUndone(t *testing.T) {
	undone := 0
	for seed := range uint64(300) {
		r := random(seed)
		h := randomHeap(t, r)
		size := h.Conf.Quarantine + 1 + r.IntN(50)
		after, at, err := heap.Alloc(h, size)
		if err != api.OK {
			continue
		}
		undone++
		after = freed(t, after, at)
		want := api.Heap{Conf: h.Conf, Live: h.Live, Given: h.Given + 1}
		if !isSame(after, want) || !heap.Same(after, want) {
			t.Fatalf("seed %d: %v, want %v", seed, after, want)
		}
	}
	if undone < 50 {
		t.Errorf("only %d blocks", undone)
	}
}

// shuffledAts returns where some of a heap's live blocks begin.
func shuffledAts(r *rand.Rand, h api.Heap) []uint32 {
	var l []uint32
	for _, b := range h.Live {
		if b.Size > 0 && !isOneIn(r, 4) {
			l = append(l, b.At)
		}
	}
	r.Shuffle(len(l), func(i, k int) { l[i], l[k] = l[k], l[i] })
	return l
}

// P6.9: the order in which blocks are freed.
func TestOrderOfFrees(t *testing.T) {
	frees := 0
	for seed := range uint64(300) {
		r := random(seed)
		c := randomConf(r)
		c.Quarantine = pick(r, 0, c.Quarantine)
		h := empty(t, c)
		for range 20 {
			if after, _, err := heap.Alloc(h, r.IntN(40)); err == api.OK {
				h = after
			}
		}
		l := shuffledAts(r, h)
		one, other := h, h
		for _, at := range l {
			one = freed(t, one, at)
		}
		r.Shuffle(len(l), func(i, k int) { l[i], l[k] = l[k], l[i] })
		for _, at := range l {
			other = freed(t, other, at)
		}
		if !slices.Equal(one.Live, other.Live) || c.Quarantine == 0 && !heap.Same(one, other) {
			t.Fatalf("seed %d: %v and %v", seed, one, other)
		}
		frees += len(l)
	}
	if frees < 500 {
		t.Errorf("only %d blocks were freed", frees)
	}
}

// moved is a heap of which all is by some pages higher.
func moved(h api.Heap, pages int) api.Heap {
	h = copied(h)
	h.Conf.Page += pages
	for i := range h.Live {
		h.Live[i].At += uint32(pages * 256)
	}
	for i := range h.Quar {
		h.Quar[i].At += uint32(pages * 256)
	}
	return h
}

// P6.10: the same calls on a heap elsewhere.
func TestMoved(t *testing.T) {
	calls := 0
	for seed := range uint64(200) {
		r := random(seed)
		c := randomConf(r)
		h := empty(t, c)
		c.Page = pick(r, 1, 1+r.IntN(1<<20), 1<<24-c.N-1)
		pages := c.Page - h.Conf.Page
		other := empty(t, c)
		for range 50 {
			x := randomCall(r, h)
			y := x
			y.at += uint32(pages * 256)
			after, at, err := x.do(h)
			otherAfter, otherAt, otherErr := y.do(other)
			if err != otherErr {
				t.Fatalf("seed %d: %s: %d, and elsewhere %d", seed, x, err, otherErr)
			}
			if err != api.OK {
				continue
			}
			if x.kind != 'f' && otherAt != at+uint32(pages*256) || !isSame(otherAfter, moved(after, pages)) {
				t.Fatalf("seed %d: %s: %d, and elsewhere %d", seed, x, at, otherAt)
			}
			h, other = after, otherAfter
			calls++
		}
	}
	if calls < 1000 {
		t.Errorf("only %d calls", calls)
	}
}

// P6.11: numbers.
func TestNumbers(t *testing.T) {
	for seed := range uint64(300) {
		follow(t, seed, func(before, after api.Heap, c call, _ uint32) {
			lengths := 0
			for _, g := range heap.Gaps(after) {
				lengths += g.N
			}
			s, old := heap.Stat(after), heap.Stat(before)
			if s.GapBytes != lengths || s.Gaps != len(heap.Gaps(after)) {
				t.Fatalf("seed %d: %s: Stat %v of the gaps %v", seed, c, s, heap.Gaps(after))
			}
			for _, b := range slices.Concat(after.Live, after.Quar) {
				lengths += max(b.Size, 1) + 2*after.Conf.Red
			}
			if lengths != after.Conf.N*256 {
				t.Fatalf("seed %d: %s: gaps and extents of %d bytes", seed, c, lengths)
			}
			if c.kind == 'a' && (s.Bytes != old.Bytes+c.size || s.GapBytes != old.GapBytes-max(c.size, 1)-2*after.Conf.Red) {
				t.Fatalf("seed %d: %s: %v, then %v", seed, c, old, s)
			}
			wantGiven := before.Given + 1
			if c.kind == 'f' {
				wantGiven--
			}
			if after.Given != wantGiven {
				t.Fatalf("seed %d: %s: Given is %d, then %d", seed, c, before.Given, after.Given)
			}
		})
	}
}

// P6.12: resized blocks.
func TestResized(t *testing.T) {
	quar, gone := 0, 0
	for seed := range uint64(300) {
		follow(t, seed, func(before, after api.Heap, c call, at uint32) {
			if c.kind != 'r' {
				return
			}
			if n, err := heap.Size(after, at); n != c.size || err != api.OK {
				t.Fatalf("seed %d: %s: Size of %d: %d, %d", seed, c, at, n, err)
			}
			if near := heap.Find(after, at); c.size > 0 && (near.Kind != api.NrLive || near.Off != 0) {
				t.Fatalf("seed %d: %s: Find of %d: %v", seed, c, at, near)
			}
			if n, err := heap.Size(after, c.at); n != 0 || err != api.ErrFree {
				t.Fatalf("seed %d: %s: Size of the old block: %d, %d", seed, c, n, err)
			}
			old := before.Live[slices.IndexFunc(before.Live, func(b api.Piece) bool { return b.At == c.at })]
			if len(after.Quar) > 0 && after.Quar[len(after.Quar)-1] == old {
				if near := heap.Find(after, c.at); old.Size > 0 && near != (api.Near{Kind: api.NrQuar, Index: len(after.Quar) - 1}) {
					t.Fatalf("seed %d: %s: Find of the old block: %v", seed, c, near)
				}
				quar++
			} else {
				if near := heap.Find(after, c.at); near != (api.Near{}) {
					t.Fatalf("seed %d: %s: Find of the old block: %v", seed, c, near)
				}
				gone++
			}
			want := slices.DeleteFunc(slices.Clone(after.Live), func(b api.Piece) bool { return b.At == at })
			if others := slices.DeleteFunc(slices.Clone(before.Live), func(b api.Piece) bool { return b == old }); !slices.Equal(others, want) {
				t.Fatalf("seed %d: %s: %v, then %v", seed, c, before.Live, after.Live)
			}
			one, to, _ := heap.Alloc(before, c.size)
			if two := freed(t, one, c.at); to != at || !isSame(two, after) {
				t.Fatalf("seed %d: %s: %v is not what Alloc and Free return: %v", seed, c, after, two)
			}
		})
	}
	if quar < 50 || gone < 50 {
		t.Errorf("only %d blocks went to quarantine, %d elsewhere", quar, gone)
	}
}

// roomy is a heap in memory of its own, with bytes of other lists behind its lists.
func roomy(h api.Heap) api.Heap {
	other := []api.Piece{{At: 8, Size: 8, Born: -8}, {At: 16, Size: 16, Born: -16}}
	h.Live = append(slices.Clone(h.Live), other...)[:len(h.Live)]
	h.Quar = append(slices.Clone(h.Quar), other...)[:len(h.Quar)]
	return h
}

// isRoomy reports whether a heap is what roomy has made of another one, also behind its lists.
func isRoomy(h, from api.Heap) bool {
	whole := func(l []api.Piece, n int) []api.Piece { return l[:n+2] }
	want := roomy(from)
	return isSame(h, want) &&
		slices.Equal(whole(h.Live, len(from.Live)), whole(want.Live, len(from.Live))) &&
		slices.Equal(whole(h.Quar, len(from.Quar)), whole(want.Quar, len(from.Quar)))
}

// scribble changes all blocks of a heap, and those behind them.
func scribble(h api.Heap) {
	for _, l := range [][]api.Piece{h.Live[:cap(h.Live)], h.Quar[:cap(h.Quar)]} {
		for i := range l {
			l[i] = api.Piece{At: 1, Size: -7, Born: -7}
		}
	}
}

// P6.13: no function changes its arguments, and results do not share memory with them, nor their lists with each other.
func TestValues(t *testing.T) {
	results := 0
	for seed := range uint64(300) {
		r := random(seed)
		from := randomHeap(t, r)
		h := roomy(from)
		for range 10 {
			c := randomCall(r, h)
			after, _, err := c.do(h)
			if !isRoomy(h, from) {
				t.Fatalf("seed %d: %s has changed its argument", seed, c)
			}
			if err != api.OK {
				continue
			}
			results++
			saved := copied(after)
			_ = append(after.Live, api.Piece{Born: -1})
			_ = append(after.Quar, api.Piece{Born: -2})
			if !isSame(after, saved) {
				t.Fatalf("seed %d: the lists of %s share memory", seed, c)
			}
			scribble(after)
			if !isRoomy(h, from) {
				t.Fatalf("seed %d: %s shares memory with its argument", seed, c)
			}
		}
		heap.Check(h)
		heap.Same(h, h)
		heap.Size(h, randomAt(r, h))
		heap.Find(h, randomAt(r, h))
		heap.Outside(h, randomAt(r, h), 1000)
		heap.Stat(h)
		gaps := heap.Gaps(h)
		for i := range gaps {
			gaps[i] = api.Span{}
		}
		if !isRoomy(h, from) || len(heap.Gaps(h)) > 0 && heap.Gaps(h)[0].N == 0 {
			t.Fatalf("seed %d: calls that look have changed %v", seed, h)
		}
	}
	if results < 500 {
		t.Errorf("only %d results", results)
	}
}

// P6.13: the calls of before can be made again, and return the same.
func TestAgain(t *testing.T) {
	for seed := range uint64(100) {
		type step struct {
			before, after api.Heap
			c             call
			at            uint32
		}
		var steps []step
		follow(t, seed, func(before, after api.Heap, c call, at uint32) {
			steps = append(steps, step{before, after, c, at})
		})
		for i, x := range slices.Backward(steps) {
			after, at, err := x.c.do(x.before)
			if !isSame(after, x.after) || at != x.at || err != api.OK {
				t.Fatalf("seed %d: %d: %s again: %v, %d, %d, want %v, %d", seed, i, x.c, after, at, err, x.after, x.at)
			}
		}
	}
}
