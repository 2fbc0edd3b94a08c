package obj_test

import (
	"bytes"
	"fmt"
	"math"
	"testing"

	"candling/api"
	"candling/obj"
)

// P3.4: the symbol of an offset.
func TestSymbolAt(t *testing.T) {
	o := api.Object{Symbols: []api.Symbol{
		symbol("whole", 0, 0, 100, api.SbLocal, api.SyNone),
		symbol("import", api.SecNone, 0, 0, api.SbGlobal, api.SyNone),
		symbol("long", 0, 10, 20, api.SbLocal, api.SyNone),
		symbol("short", 0, 10, 5, api.SbLocal, api.SyNone),
		symbol("again", 0, 10, 5, api.SbGlobal, api.SyFunc),
		symbol("mark", 0, 12, 0, api.SbLocal, api.SyNone),
		symbol("inner", 0, 12, 1, api.SbWeak, api.SyData),
		symbol("other", 1, 11, 50, api.SbLocal, api.SyNone),
		symbol("abs", api.SecAbs, 10, 0, api.SbLocal, api.SyNone),
	}}
	o.Sections = []api.Section{{Name: "a", Rights: 7, Align: 1, Zero: 100}, {Name: "b", Rights: 7, Align: 1, Zero: 61}}
	for _, c := range []struct {
		section, off, want int
		found              bool
	}{
		{0, 0, 0, true}, {0, 9, 0, true}, {0, 10, 3, true}, {0, 11, 3, true}, {0, 12, 6, true}, {0, 13, 3, true}, {0, 14, 3, true}, {0, 15, 2, true}, {0, 29, 2, true}, {0, 30, 0, true}, {0, 99, 0, true},
		{0, 100, 0, false}, {0, -1, 0, false}, {0, math.MinInt, 0, false}, {0, math.MaxInt, 0, false},
		{1, 10, 0, false}, {1, 11, 7, true}, {1, 60, 7, true}, {1, 61, 0, false},
		{-1, 0, 0, false}, {-2, 10, 0, false}, {2, 0, 0, false}, {math.MinInt, 0, 0, false}, {math.MaxInt, 0, 0, false},
	} {
		if i, found := obj.SymbolAt(o, c.section, c.off); i != c.want || found != c.found {
			t.Errorf("SymbolAt of %d, %d: %d, %v", c.section, c.off, i, found)
		}
	}
}

// P3.4: symbols of objects that are not valid.
func TestSymbolAtOfInvalidObjects(t *testing.T) {
	o := api.Object{Sections: make([]api.Section, 1), Symbols: []api.Symbol{
		symbol("", 0, 8, -5, 7, 7),
		symbol("", 0, 4, math.MaxInt, 0, 0),
		symbol("", 0, math.MaxUint32, math.MaxInt, 0, 0),
		symbol("", 0, 2, math.MinInt, 0, 0),
	}}
	for off, want := range map[int]int{4: 1, 5: 1, 8: 1, math.MaxUint32 - 1: 1, math.MaxUint32: 2, math.MaxInt: 2} {
		if i, found := obj.SymbolAt(o, 0, off); i != want || !found {
			t.Errorf("SymbolAt of %d: %d, %v, want %d", off, i, found, want)
		}
	}
	for _, off := range []int{-1, 0, 2, 3, math.MinInt} {
		if i, found := obj.SymbolAt(o, 0, off); i != 0 || found {
			t.Errorf("SymbolAt of %d: %d, %v", off, i, found)
		}
	}
}

// P3.4: where there is no section, no symbol is of it.
func TestSymbolAtWithoutSection(t *testing.T) {
	numbers := []int{math.MinInt, -3, api.SecAbs, api.SecNone, 0, 1, 2, 3, math.MaxInt}
	o := api.Object{}
	for _, n := range numbers {
		o.Symbols = append(o.Symbols, symbol("x", n, 5, 2, api.SbGlobal, api.SyNone))
	}
	for length := range 4 {
		o.Sections = make([]api.Section, length)
		for want, section := range numbers {
			isThere := section >= 0 && section < length
			if !isThere {
				want = 0
			}
			for _, off := range []int{5, 6} {
				if i, found := obj.SymbolAt(o, section, off); i != want || found != isThere {
					t.Errorf("SymbolAt of %d, %d with %d sections: %d, %v, want %d, %v", section, off, length, i, found, want, isThere)
				}
			}
			for _, off := range []int{0, 4, 7, -1} {
				if i, found := obj.SymbolAt(o, section, off); i != 0 || found {
					t.Errorf("SymbolAt of %d, %d with %d sections: %d, %v", section, off, length, i, found)
				}
			}
		}
	}
}

// P3.9: no symbol that covers an offset is nearer than that of SymbolAt.
func TestNearestSymbols(t *testing.T) {
	covering := 0
	for seed := range uint64(1500) {
		o := randomObject(random(seed))
		for section := -2; section <= len(o.Sections); section++ {
			for _, s := range o.Symbols {
				for _, off := range []int{int(s.Value), int(s.Value) + s.Size} {
					covering += tryNearest(t, o, section, off) + tryNearest(t, o, section, off-1)
				}
			}
		}
	}
	if covering < 5000 {
		t.Errorf("only %d offsets with symbols", covering)
	}
}

// tryNearest tries an offset, and returns how many symbols cover it.
func tryNearest(t *testing.T, o api.Object, section, off int) int {
	t.Helper()
	got, found := obj.SymbolAt(o, section, off)
	covering := 0
	for i, s := range o.Symbols {
		if s.Section != section || off < int(s.Value) || off >= int(s.Value)+s.Size {
			if found && i == got {
				t.Fatalf("symbol %d of %+v does not cover %d, %d", i, o.Symbols, section, off)
			}
			continue
		}
		covering++
		best := o.Symbols[got]
		if !found || s.Value > best.Value || s.Value == best.Value && (s.Size < best.Size || s.Size == best.Size && i < got) {
			t.Fatalf("SymbolAt of %d, %d of %+v: %d, %v, but %d is nearer", section, off, o.Symbols, got, found, i)
		}
	}
	if found != (covering > 0) || !found && got != 0 {
		t.Fatalf("SymbolAt of %d, %d of %+v: %d, %v", section, off, o.Symbols, got, found)
	}
	return covering
}

// P3.4: fields.
func TestApply(t *testing.T) {
	for _, c := range []struct {
		b    string
		off  int
		kind int
		s    uint32
		add  int
		p    uint32
		want string
	}{
		{"\x01\x02\x03\x04\x05", 1, api.RlWord, 0x1000, -1, 99, "\x01\xff\x0f\x00\x00"},
		{"\x01\x02\x03\x04", 0, api.RlWord, 0xffffffff, 1, 0, "\x00\x00\x00\x00"},
		{"\x01\x02\x03\x04", 0, api.RlWord, 0, -1, 0, "\xff\xff\xff\xff"},
		{"\x01\x02\x03\x04", 0, api.RlWord, 0xffffffff, math.MaxInt32, 0, "\xfe\xff\xff\x7f"},
		{"\x01\x02\x03\x04", 0, api.RlWord, 0x12345678, 0, 0, "\x78\x56\x34\x12"},
		{"\x01\x02\x03\x04\x05", 1, api.RlDiff, 0x2000, -4, 0x1000, "\x01\xfc\x0f\x00\x00"},
		{"\x01\x02\x03\x04\x05", 1, api.RlDiff, 0, 0, 1, "\x01\xff\xff\xff\xff"},
		{"\x01\x02\x03\x04\x05", 1, api.RlDiff, 0, math.MinInt32, 0xffffffff, "\x01\x01\x00\x00\x80"},
		{"\x01\x02\x03\x04", 0, api.RlPage, 0x1234, 0x100, 99, "\x13\x00\x00\x00"},
		{"\x01\x02\x03\x04", 0, api.RlPage, 0xffffffff, 1, 0, "\x00\x00\x00\x00"},
		{"\x01\x02\x03\x04", 0, api.RlPage, 0, -1, 0, "\xff\xff\xff\x00"},
		{"\x01\x02\x03\x04", 0, api.RlPage, 255, 0, 0, "\x00\x00\x00\x00"},
		{"\x01\x02\x03", 1, api.RlHalf, 65535, 0, 99, "\x01\xff\xff"},
		{"\x01\x02\x03", 0, api.RlHalf, 5, -6, 0, "\xff\xff\x03"},
		{"\x01\x02", 0, api.RlHalf, 0, -32768, 0, "\x00\x80"},
		{"\x01\x02", 0, api.RlHalf, 0xffffffff, -0x7fffffff - 1, 0, ""},
		{"\x01\x02", 0, api.RlHalf, 0x80000000, math.MinInt32, 0, "\x00\x00"},
		{"\x01\x02", 0, api.RlHalf, 65536, 0, 0, ""},
		{"\x01\x02", 0, api.RlHalf, 65535, 1, 0, ""},
		{"\x01\x02", 0, api.RlHalf, 0, -32769, 0, ""},
		{"\x01\x02", 0, api.RlHalf, 0xffffffff, 1, 0, ""},
		{"\x01\x02\x03", 2, api.RlByte, 255, 0, 99, "\x01\x02\xff"},
		{"\x01", 0, api.RlByte, 0, -128, 0, "\x80"},
		{"\x01", 0, api.RlByte, 100, 100, 0, "\xc8"},
		{"\x01", 0, api.RlByte, 256, 0, 0, ""},
		{"\x01", 0, api.RlByte, 0, -129, 0, ""},
		{"\x01", 0, api.RlByte, 0xffffffff, 0, 0, ""},
		{"\x01", 0, api.RlByte, 0xffffffff, 2, 0, ""},
	} {
		b := []byte(c.b)
		got, err := obj.Apply(b, c.off, c.kind, c.s, c.add, c.p)
		wantErr := api.OK
		if c.want == "" {
			wantErr = api.ErrRange
		}
		if err != wantErr || string(got) != c.want {
			t.Errorf("Apply of %+v: %v, %d", c, got, err)
		}
		clear(got)
		if string(b) != c.b {
			t.Errorf("Apply of %+v has changed its argument to %v", c, b)
		}
	}
}

// P3.4: what no relocation is.
func TestApplyErrors(t *testing.T) {
	b := make([]byte, 6)
	for _, c := range [][3]int{
		{0, 0, 0}, {0, 6, 0}, {0, -1, 0}, {0, math.MaxInt, 0}, {0, math.MinInt, 0},
		{0, 1, math.MaxInt32 + 1}, {0, 1, math.MinInt32 - 1}, {0, 2, math.MaxInt}, {0, 3, math.MinInt},
		{-1, 1, 0}, {-1, 3, 0}, {3, 1, 0}, {3, 4, 0}, {3, 5, 0}, {5, 2, 0}, {6, 3, 0}, {6, 2, 0}, {math.MaxInt, 1, 0}, {math.MaxInt, 3, 0}, {math.MinInt, 1, 0},
		{6, 3, 1 << 20}, {-1, 2, 1 << 20},
	} {
		if got, err := obj.Apply(b, c[0], c[1], 0, c[2], 0); err != api.ErrArg || len(got) > 0 {
			t.Errorf("Apply of %v: %v, %d", c, got, err)
		}
	}
	for kind := 1; kind <= api.MaxRl; kind++ {
		for _, b := range [][]byte{nil, {}, make([]byte, sizeOf(kind)-1)} {
			if got, err := obj.Apply(b, 0, kind, 0, 0, 0); err != api.ErrArg || len(got) > 0 {
				t.Errorf("Apply of kind %d to %v: %v, %d", kind, b, got, err)
			}
		}
		if got, err := obj.Apply(b, 6-sizeOf(kind), kind, 0, 0, 0); err != api.OK || len(got) != 6 {
			t.Errorf("Apply of kind %d to the end: %v, %d", kind, got, err)
		}
	}
}

// P3.10: the field has the value, all other bytes are as they were, and once is enough.
func TestAppliedFields(t *testing.T) {
	r := random(5)
	applied := 0
	for range 20000 {
		b := randomBytes(r.Uint32, 4+r.IntN(9))
		kind := 1 + r.IntN(api.MaxRl)
		size := sizeOf(kind)
		off := r.IntN(len(b) - size + 1)
		s := pick(r, r.Uint32(), uint32(r.IntN(300)), uint32(r.IntN(70000)))
		add := pick(r, int(int32(r.Uint32())), r.IntN(600)-300, r.IntN(140000)-70000, -int(s>>1))
		p := r.Uint32()
		got, err := obj.Apply(b, off, kind, s, add, p)
		if want := rangeError(kind, int(s)+add); err != want {
			t.Fatalf("Apply of kind %d, %d + %d: %d, want %d", kind, s, add, err, want)
		}
		if err != api.OK {
			continue
		}
		applied++
		value := map[int]uint32{api.RlDiff: s + uint32(add) - p, api.RlPage: (s + uint32(add)) >> 8}[kind]
		if kind < api.RlDiff {
			value = s + uint32(add)
		}
		want := bytes.Clone(b)
		for i := range size {
			want[off+i] = byte(value >> (8 * i))
		}
		again, err := obj.Apply(got, off, kind, s, add, p)
		if !bytes.Equal(got, want) || !bytes.Equal(again, want) || err != api.OK {
			t.Fatalf("Apply to %v at %d, %s: %v, and again %v, %d, want %v", b, off, fmt.Sprint(kind, s, add, p), got, again, err, want)
		}
	}
	if applied < 10000 {
		t.Errorf("only %d were applied", applied)
	}
}

// rangeError returns the error of a field that is to have a sum.
func rangeError(kind, sum int) api.Errno {
	isFitting := true
	switch kind {
	case api.RlHalf:
		isFitting = sum >= -32768 && sum <= 65535
	case api.RlByte:
		isFitting = sum >= -128 && sum <= 255
	}
	if isFitting {
		return api.OK
	}
	return api.ErrRange
}
