package cpu

import (
	"math"

	"candling/api"
)

// isMet reports whether a condition with an even number holds for flags.
func isMet(cd, flags int) bool {
	zero, negative := flags&api.FlZ != 0, flags&api.FlN != 0
	carry, overflow := flags&api.FlC != 0, flags&api.FlV != 0
	switch cd {
	case api.CdE:
		return zero
	case api.CdB:
		return carry
	case api.CdS:
		return negative
	case api.CdO:
		return overflow
	case api.CdBE:
		return carry || zero
	case api.CdL:
		return negative != overflow
	case api.CdLE:
		return zero || negative != overflow
	}
	return true
}

// operation is an operation of two words.
type operation struct {
	calculate func(a, b, carry uint32) (uint32, int) // the result, and the flags, which are 0 for those without flags
	setsFlags bool
	divides   bool // by b, which may not be 0
}

// operationOf returns an operation from OpAdd to OpSbb.
func operationOf(op int) operation {
	return [...]operation{
		api.OpAdd:  {func(a, b, _ uint32) (uint32, int) { return sum(a, b, 0) }, true, false},
		api.OpSub:  {func(a, b, _ uint32) (uint32, int) { return difference(a, b, 0) }, true, false},
		api.OpAnd:  {func(a, b, _ uint32) (uint32, int) { return bitwise(a & b) }, true, false},
		api.OpOr:   {func(a, b, _ uint32) (uint32, int) { return bitwise(a | b) }, true, false},
		api.OpXor:  {func(a, b, _ uint32) (uint32, int) { return bitwise(a ^ b) }, true, false},
		api.OpShl:  {func(a, b, _ uint32) (uint32, int) { return shifted(a<<(b%32), a, 32-b%32) }, true, false},
		api.OpShr:  {func(a, b, _ uint32) (uint32, int) { return shifted(a>>(b%32), a, b%32-1) }, true, false},
		api.OpSar:  {func(a, b, _ uint32) (uint32, int) { return shifted(uint32(int32(a)>>(b%32)), a, b%32-1) }, true, false},
		api.OpMul:  {func(a, b, _ uint32) (uint32, int) { return a * b, 0 }, false, false},
		api.OpMulH: {func(a, b, _ uint32) (uint32, int) { return uint32(uint64(a) * uint64(b) >> 32), 0 }, false, false},
		api.OpDiv:  {func(a, b, _ uint32) (uint32, int) { return a / b, 0 }, false, true},
		api.OpRem:  {func(a, b, _ uint32) (uint32, int) { return a % b, 0 }, false, true},
		api.OpDivS: {func(a, b, _ uint32) (uint32, int) { return uint32(int64(int32(a)) / int64(int32(b))), 0 }, false, true},
		api.OpAdc:  {sum, true, false},
		api.OpSbb:  {difference, true, false},
	}[op]
}

// flagsOf returns a function that adds a flag to those of a result, if it is set, and returns all of them.
func flagsOf(r uint32) func(flag int, isSet bool) int {
	flags := 0
	add := func(flag int, isSet bool) int {
		if isSet {
			flags |= flag
		}
		return flags
	}
	add(api.FlZ, r == 0)
	add(api.FlN, int32(r) < 0)
	return add
}

// isBeyond reports whether a number is not in the range of signed words.
func isBeyond(n int64) bool { return n < math.MinInt32 || n > math.MaxInt32 }

func sum(a, b, carry uint32) (uint32, int) {
	r := a + b + carry
	add := flagsOf(r)
	add(api.FlC, uint64(a)+uint64(b)+uint64(carry) > math.MaxUint32)
	return r, add(api.FlV, isBeyond(int64(int32(a))+int64(int32(b))+int64(carry)))
}

func difference(a, b, carry uint32) (uint32, int) {
	r := a - b - carry
	add := flagsOf(r)
	add(api.FlC, uint64(a) < uint64(b)+uint64(carry))
	return r, add(api.FlV, isBeyond(int64(int32(a))-int64(int32(b))-int64(carry)))
}

func bitwise(r uint32) (uint32, int) {
	add := flagsOf(r)
	return r, add(api.FlC, false)
}

// shifted returns the result of a shift of a, and its flags; last is the number of the bit of a that was shifted out last, which is none of a word's if a was shifted by 0 bits.
func shifted(r, a, last uint32) (uint32, int) {
	add := flagsOf(r)
	return r, add(api.FlC, a>>last%2 != 0)
}
