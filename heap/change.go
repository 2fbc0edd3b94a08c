package heap

import (
	"cmp"
	"slices"

	"candling/api"
)

// changing is a heap that is being changed; its lists are its own.
type changing struct{ api.Heap }

// changed returns the heap that a call makes of a heap, and the address that it returns; or the first error.
func changed(h api.Heap, call func(*changing) (uint32, api.Errno)) (api.Heap, uint32, api.Errno) {
	if Check(h) != api.OK {
		return api.Heap{}, 0, api.ErrHeap
	}
	c := &changing{h}
	c.Live, c.Quar = slices.Clone(h.Live), slices.Clone(h.Quar)
	at, err := call(c)
	if err != api.OK {
		return api.Heap{}, 0, err
	}
	return c.Heap, at, api.OK
}

// give gives out a block, and returns its address.
func (c *changing) give(size int) (uint32, api.Errno) {
	if !isSize(size) {
		return 0, api.ErrArg
	}
	at, found := firstFit(c.Heap, size)
	if len(c.Live) == api.MaxBlocks || c.Given == maxGiven || !found {
		return 0, api.ErrLimit
	}
	c.Given++
	i, _ := slices.BinarySearchFunc(c.Live, at, func(b api.Piece, at uint32) int { return cmp.Compare(b.At, at) })
	c.Live = slices.Insert(c.Live, i, api.Piece{At: at, Size: size, Born: c.Given})
	return at, api.OK
}

// takeBack puts the live block that begins at an address into quarantine.
func (c *changing) takeBack(at uint32) api.Errno {
	b, found := liveAt(c.Heap, at)
	if !found {
		return api.ErrFree
	}
	c.Quar = append(c.Quar, b.Piece)
	c.Live = slices.Delete(c.Live, b.index, b.index+1)
	c.letGo()
	return api.OK
}

// letGo removes the first blocks of the quarantine, until it is within its limits.
func (c *changing) letGo() {
	gone, bytes := 0, sizesOf(c.Quar)
	for len(c.Quar)-gone > api.MaxBlocks || bytes > c.Conf.Quarantine {
		bytes -= c.Quar[gone].Size
		gone++
	}
	c.Quar = slices.Delete(c.Quar, 0, gone)
}

// replace gives out a block of another size, takes back the live block that begins at an address, and returns the address of the new one.
func (c *changing) replace(at uint32, size int) (uint32, api.Errno) {
	if _, found := liveAt(c.Heap, at); !found {
		return 0, api.ErrFree
	}
	to, err := c.give(size)
	if err != api.OK {
		return 0, err
	}
	return to, c.takeBack(at)
}
