package cpu

import (
	"iter"
	"math"

	"candling/api"
)

// lane is where a lane of a vector stands: from a bit of a word on, so many bits.
type lane struct{ word, bit, width int }

// of returns the lane's value in a vector.
func (l lane) of(v api.Vec) uint32 {
	return v[l.word] >> l.bit & (math.MaxUint32 >> (32 - l.width))
}

// put sets the lane, which is 0, in a vector; bits of the value beyond the lane do not count.
func (l lane) put(v *api.Vec, value uint32) {
	v[l.word] |= value << (32 - l.width) >> (32 - l.width) << l.bit
}

// lanesOf yields the lanes of a width, by their numbers.
func lanesOf(width int) iter.Seq2[int, lane] {
	return func(yield func(int, lane) bool) {
		for i := range 128 / width {
			if !yield(i, lane{i * width / 32, i * width % 32, width}) {
				return
			}
		}
	}
}

// laneOperation is an operation of two vectors: what it makes of two lanes, and their width, which is 0 if the instruction says it.
type laneOperation struct {
	calculate func(x, y uint32) uint32
	width     int
}

// laneOperationOf returns an operation from OpVAdd to OpVShuf; a is its first vector, from which a shuffle takes bytes that stand elsewhere.
func laneOperationOf(op int, a api.Vec) laneOperation {
	return [...]laneOperation{
		api.OpVAdd - api.OpVAdd:  {calculate: func(x, y uint32) uint32 { return x + y }},
		api.OpVSub - api.OpVAdd:  {calculate: func(x, y uint32) uint32 { return x - y }},
		api.OpVEq - api.OpVAdd:   {calculate: onesIfEqual},
		api.OpVAnd - api.OpVAdd:  {func(x, y uint32) uint32 { return x & y }, 32},
		api.OpVOr - api.OpVAdd:   {func(x, y uint32) uint32 { return x | y }, 32},
		api.OpVXor - api.OpVAdd:  {func(x, y uint32) uint32 { return x ^ y }, 32},
		api.OpVShuf - api.OpVAdd: {func(_, y uint32) uint32 { return byteOf(a, int(y%16)) }, 8},
	}[op-api.OpVAdd]
}

func onesIfEqual(x, y uint32) uint32 {
	if x == y {
		return math.MaxUint32
	}
	return 0
}

// byteOf returns the byte of a vector with a number.
func byteOf(v api.Vec, i int) uint32 {
	return lane{i / 4, i % 4 * 8, 8}.of(v)
}

// byLanes returns what an operation makes of two vectors, lane by lane.
func byLanes(o laneOperation, a, b api.Vec) api.Vec {
	var r api.Vec
	for _, l := range lanesOf(o.width) {
		l.put(&r, o.calculate(l.of(a), l.of(b)))
	}
	return r
}
