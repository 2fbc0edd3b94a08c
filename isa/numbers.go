package isa

import (
	"math"

	"candling/api"
)

// The fields of an instruction besides Op, in the order by which instructions are compared.
const (
	fieldA = iota
	fieldB
	fieldC
	fieldD
	fieldK
	fieldI
	fieldCount
)

// valuesOf returns the fields of an instruction by their numbers.
func valuesOf(x api.Insn) [fieldCount]int {
	return [fieldCount]int{x.A, x.B, x.C, x.D, x.K, int(x.I)}
}

// span is the values that a field may have.
type span struct{ least, most int }

func (s span) size() uint64 { return uint64(s.most-s.least) + 1 }

// rangesOf returns which values the fields may have in instructions of an operation; a field that no operand uses has 0 alone.
func rangesOf(op int) [fieldCount]span {
	var r [fieldCount]span
	for _, kind := range operandsOf(op) {
		switch kind {
		case api.FdRA:
			r[fieldA].most = 15
		case api.FdRB:
			r[fieldB].most = 15
		case api.FdRC:
			r[fieldC].most = 15
		case api.FdVA:
			r[fieldA].most = 7
		case api.FdVB:
			r[fieldB].most = 7
		case api.FdVC:
			r[fieldC].most = 7
		case api.FdCond:
			r[fieldD].most = 15
		case api.FdLane:
			r[fieldD].most = 2
		case api.FdExt, api.FdWord, api.FdScale:
			r[fieldD].most = 3
		case api.FdK:
			r[fieldK] = span{math.MinInt8, math.MaxInt8}
		case api.FdI:
			r[fieldI].most = math.MaxUint32
		case api.FdMemK:
			r[fieldB].most = 15
			r[fieldK] = span{math.MinInt8, math.MaxInt8}
		case api.FdMemI:
			r[fieldB].most = 15
			r[fieldI].most = math.MaxUint32
		}
	}
	return r
}

// counter returns a function that tells how many instructions the operations have, together, with which it has been called.
func counter() func(op int) uint64 {
	total := uint64(0)
	return func(op int) uint64 {
		n := uint64(1)
		for _, r := range rangesOf(op) {
			n *= r.size()
		}
		total += n
		return total
	}
}

// Count returns how many instructions there are.
func Count() uint64 {
	count := counter()
	n := uint64(0)
	for op := range operations {
		n = count(op)
	}
	return n
}

// Rank returns how many instructions come ahead of one.
func Rank(x api.Insn) (uint64, api.Errno) {
	if err := Check(x); err != api.OK {
		return 0, err
	}
	count := counter()
	ahead := uint64(0)
	for op := range operations {
		if op == x.Op {
			break
		}
		ahead = count(op)
	}
	return ahead + rankWithin(x), api.OK
}

// rankWithin returns how many instructions of the same operation come ahead of one: its fields are digits, each one with the size of its range as its base.
func rankWithin(x api.Insn) uint64 {
	n := uint64(0)
	ranges := rangesOf(x.Op)
	for i, v := range valuesOf(x) {
		n = n*ranges[i].size() + uint64(v-ranges[i].least)
	}
	return n
}

// Unrank returns the instruction ahead of which there are n.
func Unrank(n uint64) (api.Insn, api.Errno) {
	count := counter()
	ahead := uint64(0)
	for op := range operations {
		end := count(op)
		if n < end {
			return unrankWithin(op, n-ahead), api.OK
		}
		ahead = end
	}
	return api.Insn{}, api.ErrArg
}

// unrankWithin returns the instruction of an operation ahead of which there are n of this operation.
func unrankWithin(op int, n uint64) api.Insn {
	ranges := rangesOf(op)
	var v [fieldCount]int
	for i := fieldCount - 1; i >= 0; i-- {
		size := ranges[i].size()
		v[i] = ranges[i].least + int(n%size)
		n /= size
	}
	return api.Insn{
		Op: op,
		A:  v[fieldA],
		B:  v[fieldB],
		C:  v[fieldC],
		D:  v[fieldD],
		K:  v[fieldK],
		I:  uint32(v[fieldI]),
	}
}
