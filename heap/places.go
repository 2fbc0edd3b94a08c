package heap

import (
	"cmp"
	"iter"
	"slices"

	"candling/api"
)

// span is the addresses from one of them up to another one, which may be 2^32.
type span struct{ from, to int }

func (s span) length() int { return s.to - s.from }

func (s span) holds(at int) bool { return at >= s.from && at < s.to }

// regionOf returns the addresses of the pages of a heap.
func regionOf(c api.HeapConf) span {
	return span{c.Page * api.PageSize, (c.Page + c.N) * api.PageSize}
}

// bytesOf returns the addresses of the bytes of a block.
func bytesOf(b api.Piece) span { return span{int(b.At), int(b.At) + b.Size} }

// occupied returns how many bytes a block of some size occupies without its red zones.
func occupied(size int) int { return max(size, 1) }

// extent is the addresses of a block and its red zones; the block has the index in Live or Quar.
type extent struct {
	span
	api.Piece
	isLive bool
	index  int
}

// kindAt returns what stands at an address of an extent.
func (e extent) kindAt(at int) int {
	isInside := bytesOf(e.Piece).holds(at)
	switch {
	case e.isLive && isInside:
		return api.NrLive
	case e.isLive:
		return api.NrRed
	case isInside:
		return api.NrQuar
	}
	return api.NrQuarRed
}

// newExtent returns the extent of a block with so many bytes of red zones on each side.
func newExtent(b api.Piece, red int, isLive bool, index int) extent {
	return extent{span{int(b.At) - red, int(b.At) + occupied(b.Size) + red}, b, isLive, index}
}

// extentsOf yields the extents of all blocks of a heap, in the order of their addresses; those of Live are in this order already.
func extentsOf(h api.Heap) iter.Seq[extent] {
	return func(yield func(extent) bool) {
		quar := quarantined(h)
		for i, b := range h.Live {
			e := newExtent(b, h.Conf.Red, true, i)
			for len(quar) > 0 && quar[0].from < e.from {
				if !yield(quar[0]) {
					return
				}
				quar = quar[1:]
			}
			if !yield(e) {
				return
			}
		}
		for _, e := range quar {
			if !yield(e) {
				return
			}
		}
	}
}

// quarantined returns the extents of the blocks in quarantine, in the order of their addresses.
func quarantined(h api.Heap) []extent {
	l := make([]extent, len(h.Quar))
	for i, b := range h.Quar {
		l[i] = newExtent(b, h.Conf.Red, false, i)
	}
	slices.SortFunc(l, func(a, b extent) int { return cmp.Compare(a.from, b.from) })
	return l
}

// gapsOf yields the gaps of a valid heap, in the order of their addresses.
func gapsOf(h api.Heap) iter.Seq[span] {
	return func(yield func(span) bool) {
		region := regionOf(h.Conf)
		end := region.from
		for e := range extentsOf(h) {
			if e.from > end && !yield(span{end, e.from}) {
				return
			}
			end = e.to
		}
		if end < region.to {
			yield(span{end, region.to})
		}
	}
}

// roomIn returns the least address in a gap at which a block can stand, and how many bytes it can occupy there.
func roomIn(gap span, red int) (at, room int) {
	at = (gap.from + red + api.HeapAlign - 1) / api.HeapAlign * api.HeapAlign
	return at, gap.to - red - at
}

// first returns the first of those that are yielded for which a condition holds.
func first[T any](all iter.Seq[T], holds func(T) bool) (T, bool) {
	for x := range all {
		if holds(x) {
			return x, true
		}
	}
	var none T
	return none, false
}

// liveAt returns the extent of the live block that begins at an address.
func liveAt(h api.Heap, at uint32) (extent, bool) {
	return first(extentsOf(h), func(e extent) bool { return e.isLive && e.At == at })
}

// firstFit returns the least address at which there is room for a block of some size.
func firstFit(h api.Heap, size int) (uint32, bool) {
	gap, found := first(gapsOf(h), func(g span) bool {
		_, room := roomIn(g, h.Conf.Red)
		return room >= occupied(size)
	})
	if !found {
		return 0, false
	}
	at, _ := roomIn(gap, h.Conf.Red)
	return uint32(at), true
}
