package heap

import (
	"slices"

	"candling/api"
)

// pageCount is how many pages the address space has.
const pageCount = api.MaxSpace / api.PageSize

// maxGiven is how many blocks a heap gives out.
const maxGiven = 1 << 30

// isWithin reports whether n is from least to most.
func isWithin(n, least, most int) bool { return n >= least && n <= most }

func isConf(c api.HeapConf) bool {
	return isWithin(c.Page, 1, pageCount-1) &&
		isWithin(c.N, 0, min(api.MaxPages, pageCount-c.Page)) &&
		isWithin(c.Red, 0, api.MaxRed) &&
		isWithin(c.Quarantine, 0, api.MaxQuar)
}

func isSize(n int) bool { return isWithin(n, 0, api.MaxBlock) }

// areBlocks reports whether the blocks of a heap can be those of a valid one, wherever the others are.
func areBlocks(h api.Heap) bool {
	isOne := func(b api.Piece) bool {
		return b.At%api.HeapAlign == 0 && isSize(b.Size) && isWithin(b.Born, 1, h.Given)
	}
	return every(h.Live, isOne) && every(h.Quar, isOne) &&
		sizesOf(h.Quar) <= h.Conf.Quarantine &&
		areBornApart(h)
}

// every reports whether a list has no more blocks than it may, and a condition holds for all of them.
func every(l []api.Piece, holds func(api.Piece) bool) bool {
	return len(l) <= api.MaxBlocks && !slices.ContainsFunc(l, func(b api.Piece) bool { return !holds(b) })
}

// areBornApart reports whether no two blocks of a heap have the same number.
func areBornApart(h api.Heap) bool {
	var l []int
	for _, b := range slices.Concat(h.Live, h.Quar) {
		l = append(l, b.Born)
	}
	slices.Sort(l)
	return len(slices.Compact(l)) == len(h.Live)+len(h.Quar)
}

// areApart reports whether the extents of a heap lie in its region, and none meets another one. Those of Live are yielded in their own order, so that it is increasing too.
func areApart(h api.Heap) bool {
	region := regionOf(h.Conf)
	end := region.from
	for e := range extentsOf(h) {
		if e.from < end {
			return false
		}
		end = e.to
	}
	return end <= region.to
}

// sizesOf returns how many bytes blocks have, without their red zones.
func sizesOf(l []api.Piece) int {
	sum := 0
	for _, b := range l {
		sum += b.Size
	}
	return sum
}
