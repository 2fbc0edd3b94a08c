package cpu_test

import (
	"math"
	"testing"

	"candling/api"
	"candling/cpu"
)

// P7.1: Check looks at flags alone.
func TestCheck(t *testing.T) {
	for f := -1; f <= 17; f++ {
		want := api.OK
		if f < 0 || f > 15 {
			want = api.ErrForm
		}
		if err := cpu.Check(api.CPU{F: f, PC: 3, R: [16]uint32{5: 7}}); err != want {
			t.Errorf("F %d: %d, want %d", f, err, want)
		}
	}
	for _, f := range []int{math.MinInt, math.MaxInt, 32, 1 << 32, -16, -1 << 32} {
		if err := cpu.Check(api.CPU{F: f}); err != api.ErrForm {
			t.Errorf("F %d: %d", f, err)
		}
	}
}

// P7.1: the chapter's examples of words.
func TestExamplesOfWords(t *testing.T) {
	for _, c := range []struct {
		op    int
		a, b  uint32
		want  uint32
		flags int
	}{
		{api.OpAdd, math.MaxUint32, 1, 0, 5},
		{api.OpSub, 1 << 31, 1, 1<<31 - 1, 8},
		{api.OpSub, 1, 2, math.MaxUint32, 6},
		{api.OpSub, 5, 7, math.MaxUint32 - 1, 6},
		{api.OpShl, 1<<31 + 1, 33, 2, 4},
		{api.OpShr, 3, 0, 3, 0},
		{api.OpSar, 1 << 31, 31, math.MaxUint32, 2},
		{api.OpDivS, math.MaxUint32 - 6, 2, math.MaxUint32 - 2, 0},
		{api.OpDivS, 1 << 31, math.MaxUint32, 1 << 31, 0},
	} {
		if w, f, ok := cpu.Alu(c.op, c.a, c.b, 0); w != c.want || f != c.flags || !ok {
			t.Errorf("operation %d of %#x, %#x: %#x, %d, %v, want %#x, %d", c.op, c.a, c.b, w, f, ok, c.want, c.flags)
		}
	}
	if w, f, ok := cpu.Alu(api.OpDiv, 1, 0, 0); w != 0 || f != 0 || ok {
		t.Errorf("1 / 0: %d, %d, %v", w, f, ok)
	}
	if !cpu.Holds(api.CdL, api.FlN) || cpu.Holds(api.CdL, api.FlN|api.FlV) || cpu.Holds(16, 0) {
		t.Error("Holds")
	}
	if v, ok := cpu.Lanes(api.OpVAdd, 0, api.Vec{255}, api.Vec{1}); v != (api.Vec{}) || !ok {
		t.Errorf("Lanes: %v, %v", v, ok)
	}
}

// P7.1: which conditions hold; of flags the lower four bits count.
func TestHolds(t *testing.T) {
	for f := range 16 {
		for _, more := range []int{0, 16, 1 << 40, -16, math.MinInt} {
			for cd := range 16 {
				if got, want := cpu.Holds(cd, f|more), modelHolds(cd, f); got != want {
					t.Errorf("condition %d, flags %d: %v, want %v", cd, f|more, got, want)
				}
			}
			for _, cd := range []int{-1, -2, -16, 16, 17, 30, math.MinInt, math.MaxInt} {
				if cpu.Holds(cd, f|more) {
					t.Errorf("%d is no condition", cd)
				}
			}
		}
	}
}

// P7.1: results and flags, of words where they are special and of others, with a carry and without.
func TestAlu(t *testing.T) {
	r := random(1)
	l := words()
	for range 40 {
		l = append(l, r.Uint32())
	}
	for op := api.OpAdd; op <= api.OpSbb; op++ {
		for _, a := range l {
			for _, b := range l {
				for _, carry := range []int{0, 1, 2, -1} {
					w, f, ok := cpu.Alu(op, a, b, carry)
					if want, wantF, wantOk := modelAlu(op, a, b, carry); w != want || f != wantF || ok != wantOk {
						t.Fatalf("operation %d of %#x, %#x, carry %d: %#x, %d, %v, want %#x, %d, %v", op, a, b, carry, w, f, ok, want, wantF, wantOk)
					}
				}
			}
		}
	}
	for _, carry := range []int{math.MaxInt, 7, -3} {
		if w, f, ok := cpu.Alu(api.OpAdc, 1, 1, carry); w != 3 || f != 0 || !ok {
			t.Errorf("adc with carry %d: %d, %d, %v", carry, w, f, ok)
		}
	}
	for _, op := range []int{math.MinInt, -3, -1, 0, api.OpNop, api.OpMov, api.OpAddK, api.OpCmp, api.OpVAdd, api.OpAddI, 73, math.MaxInt} {
		if w, f, ok := cpu.Alu(op, 5, 3, 1); w != 0 || f != 0 || ok {
			t.Errorf("operation %d: %d, %d, %v", op, w, f, ok)
		}
	}
}

// P7.1: extensions of words.
func TestExtend(t *testing.T) {
	for _, c := range []struct {
		a    uint32
		want [4]uint32
	}{
		{0, [4]uint32{}},
		{0x1234567f, [4]uint32{0x7f, 0x7f, 0x567f, 0x567f}},
		{0x80, [4]uint32{0x80, 0xffffff80, 0x80, 0x80}},
		{0x12348001, [4]uint32{1, 1, 0x8001, 0xffff8001}},
		{0xffff, [4]uint32{0xff, math.MaxUint32, 0xffff, math.MaxUint32}},
	} {
		for d, want := range c.want {
			if w, ok := cpu.Extend(d, c.a); w != want || !ok {
				t.Errorf("Extend(%d, %#x): %#x, %v, want %#x", d, c.a, w, ok, want)
			}
		}
	}
	for _, a := range words() {
		for d := range 4 {
			if w, ok := cpu.Extend(d, a); w != modelExtend(d, a) || !ok {
				t.Errorf("Extend(%d, %#x): %#x, %v, want %#x", d, a, w, ok, modelExtend(d, a))
			}
		}
	}
	for _, d := range []int{-1, 4, 5, math.MinInt, math.MaxInt} {
		if w, ok := cpu.Extend(d, 77); w != 0 || ok {
			t.Errorf("Extend(%d): %d, %v", d, w, ok)
		}
	}
}

// P7.1: some lanes, written out.
func TestLanesWrittenOut(t *testing.T) {
	a := api.Vec{0x00ff7f80, 0xffff0001, 0x80000000, 0x03020100}
	b := api.Vec{0x01010101, 0x00010001, 0x80000001, 0x03020000}
	for _, c := range []struct {
		op, d int
		want  api.Vec
	}{
		{api.OpVAdd, 0, api.Vec{0x01008081, 0xff000002, 1, 0x06040100}},
		{api.OpVAdd, 1, api.Vec{0x02008081, 2, 1, 0x06040100}},
		{api.OpVAdd, 2, api.Vec{0x02008081, 2, 1, 0x06040100}},
		{api.OpVSub, 0, api.Vec{0xfffe7e7f, 0xfffe0000, 0xff, 0x100}},
		{api.OpVSub, 1, api.Vec{0xfffe7e7f, 0xfffe0000, 0xffff, 0x100}},
		{api.OpVSub, 2, api.Vec{0xfffe7e7f, 0xfffe0000, 0xffffffff, 0x100}},
		{api.OpVEq, 0, api.Vec{0, 0x0000ffff, 0xffffff00, 0xffff00ff}},
		{api.OpVEq, 1, api.Vec{0, 0x0000ffff, 0xffff0000, 0xffff0000}},
		{api.OpVEq, 2, api.Vec{}},
		{api.OpVAnd, 0, api.Vec{0x00010100, 0x00010001, 0x80000000, 0x03020000}},
		{api.OpVOr, 0, api.Vec{0x01ff7f81, 0xffff0001, 0x80000001, 0x03020100}},
		{api.OpVXor, 0, api.Vec{0x01fe7e81, 0xfffe0000, 1, 0x100}},
		{api.OpVShuf, 0, api.Vec{0x7f7f7f7f, 0x807f807f, 0x8080807f, 0x00ff8080}},
	} {
		if v, ok := cpu.Lanes(c.op, c.d, a, b); v != c.want || !ok {
			t.Errorf("operation %d, %d: %#x, %v, want %#x", c.op, c.d, v, ok, c.want)
		}
	}
}

// P7.1: lanes of all widths; only sums, differences and comparisons look at the width.
func TestLanes(t *testing.T) {
	r := random(2)
	for range 3000 {
		c := randomCPU(r)
		a, b := c.V[0], c.V[1+r.IntN(7)]
		for op := api.OpVAdd; op <= api.OpVShuf; op++ {
			for _, d := range []int{0, 1, 2, -1, 3, 16, math.MinInt, math.MaxInt} {
				v, ok := cpu.Lanes(op, d, a, b)
				if op <= api.OpVEq && (d < 0 || d > 2) {
					if v != (api.Vec{}) || ok {
						t.Fatalf("operation %d, %d: %v, %v", op, d, v, ok)
					}
				} else if want := modelLanes(op, d, a, b); v != want || !ok {
					t.Fatalf("operation %d, %d of %#x, %#x: %#x, %v, want %#x", op, d, a, b, v, ok, want)
				}
			}
		}
	}
	for _, op := range []int{math.MinInt, -1, 0, api.OpAdd, api.OpVMov, api.OpVIn, api.OpVMask, math.MaxInt} {
		if v, ok := cpu.Lanes(op, 0, api.Vec{1}, api.Vec{2}); v != (api.Vec{}) || ok {
			t.Errorf("operation %d: %v, %v", op, v, ok)
		}
	}
}

// P7.1: the top bits of bytes.
func TestMask(t *testing.T) {
	for _, c := range []struct {
		a    api.Vec
		want uint32
	}{
		{api.Vec{}, 0},
		{api.Vec{0x80}, 1},
		{api.Vec{0x7fff7f7f}, 4},
		{api.Vec{0, 0x80808080, 0x7f7f7f7f, 0x80000000}, 0x80f0},
		{api.Vec{math.MaxUint32, math.MaxUint32, math.MaxUint32, math.MaxUint32}, 0xffff},
	} {
		if w := cpu.Mask(c.a); w != c.want {
			t.Errorf("Mask of %#x: %#x, want %#x", c.a, w, c.want)
		}
	}
	r := random(3)
	for range 1000 {
		v := randomCPU(r).V[1]
		if w := cpu.Mask(v); w != modelMask(v) {
			t.Fatalf("Mask of %#x: %#x, want %#x", v, w, modelMask(v))
		}
	}
}

// P7.7: what conditions say of the flags of a difference.
func TestComparisons(t *testing.T) {
	for _, a := range words() {
		for _, b := range words() {
			w, f, _ := cpu.Alu(api.OpSub, a, b, 0)
			for cd, want := range map[int]bool{
				api.CdE:      a == b,
				api.CdB:      a < b,
				api.CdBE:     a <= b,
				api.CdL:      int32(a) < int32(b),
				api.CdLE:     int32(a) <= int32(b),
				api.CdS:      w >= 1<<31,
				api.CdAlways: true,
			} {
				if cpu.Holds(cd, f) != want || cpu.Holds(cd+1, f) == want {
					t.Fatalf("conditions %d, %d of %#x - %#x", cd, cd+1, a, b)
				}
			}
			if cpu.Holds(api.CdO, f) == cpu.Holds(api.CdNO, f) {
				t.Fatalf("overflow of %#x - %#x", a, b)
			}
		}
	}
}

// P7.8: two words are one number of 64 bits; a quotient and a remainder belong together.
func TestWideNumbers(t *testing.T) {
	r := random(4)
	for range 100000 {
		a := uint64(pick(r, words()...))<<32 + uint64(randomWord(r))
		b := uint64(pick(r, words()...))<<32 + uint64(randomWord(r))
		sum, f := wide(api.OpAdd, api.OpAdc, a, b)
		if isLess, signs := sum < a, (a^sum)&(b^sum)>>63; sum != a+b || f&api.FlC != 0 != isLess || f&api.FlV != 0 != (signs != 0) {
			t.Fatalf("%#x + %#x: %#x, %d", a, b, sum, f)
		}
		difference, f := wide(api.OpSub, api.OpSbb, a, b)
		if signs := (a ^ b) & (a ^ difference) >> 63; difference != a-b || f&api.FlC != 0 != (a < b) || f&api.FlV != 0 != (signs != 0) {
			t.Fatalf("%#x - %#x: %#x, %d", a, b, difference, f)
		}
		x, y := uint32(a), uint32(b)
		if p := uint64(alu(t, api.OpMulH, x, y))<<32 + uint64(alu(t, api.OpMul, x, y)); p != uint64(x)*uint64(y) {
			t.Fatalf("%#x * %#x: %#x", x, y, p)
		}
		if y == 0 {
			continue
		}
		quotient, remainder := alu(t, api.OpDiv, x, y), alu(t, api.OpRem, x, y)
		if uint64(quotient)*uint64(y)+uint64(remainder) != uint64(x) || remainder >= y {
			t.Fatalf("%#x / %#x: %#x, %#x", x, y, quotient, remainder)
		}
	}
}

// wide calculates with two words each, the upper one with the carry of the lower one.
func wide(lower, upper int, a, b uint64) (uint64, int) {
	w, f, _ := cpu.Alu(lower, uint32(a), uint32(b), 0)
	v, f, _ := cpu.Alu(upper, uint32(a>>32), uint32(b>>32), f/api.FlC%2)
	return uint64(v)<<32 + uint64(w), f
}

// alu is the result of an operation, which has to have one.
func alu(t *testing.T, op int, a, b uint32) uint32 {
	t.Helper()
	w, _, ok := cpu.Alu(op, a, b, 0)
	if !ok {
		t.Fatalf("operation %d of %#x, %#x", op, a, b)
	}
	return w
}

// P7.9: shifts are products and quotients.
func TestShifts(t *testing.T) {
	for _, a := range words() {
		for n := range uint32(32) {
			left, right := alu(t, api.OpShl, a, n), alu(t, api.OpShr, a, n)
			if left != alu(t, api.OpMul, a, 1<<n) || right != alu(t, api.OpDiv, a, 1<<n) {
				t.Errorf("%#x by %d: %#x, %#x", a, n, left, right)
			}
			if w := alu(t, api.OpShr, left, n); w != a&(math.MaxUint32>>n) {
				t.Errorf("%#x by %d, and back: %#x", a, n, w)
			}
			quotient := int64(math.Floor(float64(int32(a)) / float64(uint64(1)<<n)))
			if w := alu(t, api.OpSar, a, n); w != uint32(quotient) {
				t.Errorf("%#x by %d, signed: %#x", a, n, w)
			}
			for _, op := range []int{api.OpShl, api.OpShr, api.OpSar} {
				if alu(t, op, a, n) != alu(t, op, a, n+32) || alu(t, op, a, n) != alu(t, op, a, n-32) {
					t.Errorf("operation %d of %#x by %d, modulo 32", op, a, n)
				}
			}
		}
	}
}

// P7.10: laws of lanes.
func TestLawsOfLanes(t *testing.T) {
	r := random(5)
	ones := api.Vec{math.MaxUint32, math.MaxUint32, math.MaxUint32, math.MaxUint32}
	numbers := vectorOf([]int{0, 1, 2, 3, 4, 5, 6, 7, 8, 9, 10, 11, 12, 13, 14, 15})
	for range 2000 {
		a, b, c := randomCPU(r).V[1], randomCPU(r).V[2], randomCPU(r).V[3]
		for d := range 3 {
			if lanes(t, api.OpVSub, d, lanes(t, api.OpVAdd, d, a, b), b) != a {
				t.Fatalf("%#x + %#x - %#x, %d", a, b, b, d)
			}
			if lanes(t, api.OpVEq, d, a, a) != ones {
				t.Fatalf("%#x, %d: not equal to itself", a, d)
			}
		}
		sum, difference := lanes(t, api.OpVAdd, 2, a, b), lanes(t, api.OpVSub, 2, a, b)
		for i := range 4 {
			if sum[i] != alu(t, api.OpAdd, a[i], b[i]) || difference[i] != alu(t, api.OpSub, a[i], b[i]) {
				t.Fatalf("%#x and %#x: %#x, %#x", a, b, sum, difference)
			}
		}
		if lanes(t, api.OpVShuf, 0, a, numbers) != a {
			t.Fatalf("%#x is shuffled", a)
		}
		one := lanes(t, api.OpVShuf, 0, lanes(t, api.OpVShuf, 0, a, b), c)
		if one != lanes(t, api.OpVShuf, 0, a, lanes(t, api.OpVShuf, 0, b, c)) {
			t.Fatalf("%#x by %#x and %#x: %#x", a, b, c, one)
		}
	}
}

// lanes is the result of an operation of vectors, which has to have one.
func lanes(t *testing.T, op, d int, a, b api.Vec) api.Vec {
	t.Helper()
	v, ok := cpu.Lanes(op, d, a, b)
	if !ok {
		t.Fatalf("operation %d, %d", op, d)
	}
	return v
}
