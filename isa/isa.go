// Package isa has the instructions of the guest: their bytes, their texts, what they use, and their numbers. See shared/doc/01-isa.md.
package isa

import (
	"iter"

	"candling/api"
)

// How many bytes an instruction has: longSize from api.OpLong on, shortSize below.
const (
	shortSize = 4
	longSize  = 8
)

// Check returns ErrInsn unless x is an instruction.
func Check(x api.Insn) api.Errno {
	if !isOperation(x.Op) {
		return api.ErrInsn
	}
	ranges := rangesOf(x.Op)
	for i, v := range valuesOf(x) {
		if v < ranges[i].least || v > ranges[i].most {
			return api.ErrInsn
		}
	}
	return api.OK
}

// Encode returns the bytes of an instruction.
func Encode(x api.Insn) ([]byte, api.Errno) {
	if err := Check(x); err != api.OK {
		return nil, err
	}
	b := []byte{byte(x.Op), byte(x.A + 16*x.B), byte(x.C + 16*x.D), byte(x.K)}
	if x.Op >= api.OpLong {
		b = append(b, byte(x.I), byte(x.I>>8), byte(x.I>>16), byte(x.I>>24))
	}
	return b, api.OK
}

// Decode returns the instruction with which bytes begin, and how many bytes it has.
func Decode(b []byte) (api.Insn, int, api.Errno) {
	if len(b) == 0 || len(b) < sizeOf(int(b[0])) {
		return api.Insn{}, 0, api.ErrInsn
	}
	x := api.Insn{
		Op: int(b[0]),
		A:  int(b[1] % 16),
		B:  int(b[1] / 16),
		C:  int(b[2] % 16),
		D:  int(b[2] / 16),
		K:  int(int8(b[3])),
	}
	if x.Op >= api.OpLong {
		x.I = uint32(b[4]) | uint32(b[5])<<8 | uint32(b[6])<<16 | uint32(b[7])<<24
	}
	if err := Check(x); err != api.OK {
		return api.Insn{}, 0, err
	}
	return x, sizeOf(x.Op), api.OK
}

// List returns the instructions that bytes are.
func List(b []byte) ([]api.Insn, int, api.Errno) {
	var l []api.Insn
	end := 0
	for x, next := range insnsOf(b) {
		l = append(l, x)
		end = next
	}
	if end < len(b) {
		return nil, end, api.ErrInsn
	}
	return l, 0, api.OK
}

// insnsOf goes through the instructions that bytes begin with, up to the first bytes that are none: each one, and the index behind it.
func insnsOf(b []byte) iter.Seq2[api.Insn, int] {
	return func(yield func(api.Insn, int) bool) {
		at := 0
		for at < len(b) {
			x, n, err := Decode(b[at:])
			if err != api.OK {
				return
			}
			at += n
			if !yield(x, at) {
				return
			}
		}
	}
}

func sizeOf(op int) int {
	if op >= api.OpLong {
		return longSize
	}
	return shortSize
}
