package obj_test

import (
	"bytes"
	"encoding/binary"
	"math"
	"slices"
	"testing"

	"candling/api"
	"candling/obj"
)

// P3.3: line programs.
func TestPack(t *testing.T) {
	for _, c := range []struct {
		l    []api.Line
		want string
	}{
		{nil, ""},
		{entries([4]int{0, 0, 0, 1}, [4]int{0, 8, 0, 3}, [4]int{0, 100, 1, 3}, [4]int{2, 4, 0, 0}), "\x45" + "\x66" + "\x03\x01\x01\x30\xf4" + "\x04\x02\x03\x00\x51"},
		{entries([4]int{0, 0, 0, 0}), "\x44"},
		{entries([4]int{0, 0, 0, 11}), "\x4f"},
		{entries([4]int{0, 0, 0, 12}), "\x02\x02\x4f"},
		{entries([4]int{0, 0, 0, 14}, [4]int{0, 4, 0, 10}), "\x02\x06\x4f" + "\x50"},
		{entries([4]int{0, 0, 0, 14}, [4]int{0, 4, 0, 9}), "\x02\x06\x4f" + "\x02\x01\x50"},
		{entries([4]int{0, 0, 0, api.MaxLine}), "\x02\xea\xff\x7f\x4f"},
		{entries([4]int{0, 1, 0, 0}), "\x01\x01\x44"},
		{entries([4]int{0, 3, 0, 0}), "\x01\x03\x44"},
		{entries([4]int{0, 43, 0, 0}), "\x01\x03\xe4"},
		{entries([4]int{0, 44, 0, 0}), "\xf4"},
		{entries([4]int{0, 45, 0, 0}), "\x01\x01\xf4"},
		{entries([4]int{0, 48, 0, 11}), "\x01\x04\xff"},
		{entries([4]int{0, 65535, 0, 0}), "\x01\xd3\xff\x03\xf4"},
		{entries([4]int{0, 5, 0, 0}, [4]int{1, 5, 0, 0}, [4]int{15, 0, 19, 4}), "\x01\x01\x54" + "\x04\x01\x01\x01\x54" + "\x04\x0e\x03\x13\x48"},
	} {
		b, err := obj.Pack(c.l)
		if err != api.OK || string(b) != c.want {
			t.Errorf("Pack of %v: %q, %d, want %q", c.l, b, err, c.want)
		}
	}
}

// literalPack packs a table as the chapter puts it.
func literalPack(l []api.Line) []byte {
	var b []byte
	var now api.Line
	for _, x := range l {
		d := x.Off - now.Off
		if x.Section != now.Section {
			b = binary.AppendUvarint(append(b, 4), uint64(x.Section-now.Section))
			d = x.Off
		}
		if x.File != now.File {
			b = binary.AppendUvarint(append(b, 3), uint64(x.File))
		}
		fits := func(d int) bool { return d%4 == 0 && d >= 0 && d <= 44 }
		n := 0
		for !fits(d - n) {
			n++
		}
		if n > 0 {
			b = binary.AppendUvarint(append(b, 1), uint64(n))
		}
		e := x.Line - now.Line
		if e > 11 {
			b = binary.AppendVarint(append(b, 2), int64(e-11))
			e = 11
		} else if e < -4 {
			b = binary.AppendVarint(append(b, 2), int64(e+4))
			e = -4
		}
		b = append(b, byte(64+16*((d-n)/4)+e+4))
		now = x
	}
	return b
}

// tables returns tables of many kinds.
func tables() [][]api.Line {
	var l [][]api.Line
	for off := range 400 {
		l = append(l, entries([4]int{0, 3, 1, 7}, [4]int{0, 4 + off, 1, off + 1}), entries([4]int{0, 9, 1, 200}, [4]int{1, off, 2, 400 - off}))
	}
	for seed := range uint64(1500) {
		l = append(l, randomObject(random(seed)).Lines)
	}
	full := sample()
	putLines(&full, api.MaxLines)
	return append(l, full.Lines)
}

// P3.3, P3.7: what Pack makes, and what Unpack makes of that.
func TestUnpackOfPack(t *testing.T) {
	for _, l := range tables() {
		before := slices.Clone(l)
		b, err := obj.Pack(l)
		if err != api.OK || !bytes.Equal(b, literalPack(l)) || !slices.Equal(l, before) {
			t.Fatalf("Pack of %v: %v, %d, want %v", l, b, err, literalPack(l))
		}
		program := bytes.Clone(b)
		got, err := obj.Unpack(b)
		if err != api.OK || !slices.Equal(got, l) {
			t.Fatalf("%v is packed as %v and unpacked as %v, %d", l, b, got, err)
		}
		clear(got)
		if !bytes.Equal(b, program) {
			t.Fatalf("the program has changed")
		}
	}
}

// P3.3: what is no line table.
func TestPackOfNoTable(t *testing.T) {
	long := sample()
	putLines(&long, api.MaxLines+1)
	bad := [][]api.Line{
		long.Lines,
		entries([4]int{0, 0, 0, 1}, [4]int{0, 0, 0, 2}),
		entries([4]int{0, 4, 0, 1}, [4]int{0, 3, 0, 2}),
		entries([4]int{1, 0, 0, 1}, [4]int{0, 3, 0, 2}),
		entries([4]int{0, 0, 1, 0}),
		entries([4]int{0, 0, 0, 1}, [4]int{0, 4, 19, 0}),
	}
	for _, n := range []int{math.MinInt, -1, math.MaxInt} {
		bad = append(bad, entries([4]int{n, 0, 0, 1}), entries([4]int{0, n, 0, 1}), entries([4]int{0, 0, n, 1}), entries([4]int{0, 0, 0, n}))
	}
	bad = append(bad, entries([4]int{16, 0, 0, 1}), entries([4]int{0, 65536, 0, 1}), entries([4]int{0, 0, 20, 1}), entries([4]int{0, 0, 0, api.MaxLine + 1}))
	for _, l := range bad {
		if b, err := obj.Pack(l); err != api.ErrObject || len(b) > 0 {
			t.Errorf("Pack of %v: %v, %d", l[:min(len(l), 9)], b, err)
		}
	}
	for _, l := range [][]api.Line{
		entries([4]int{15, 65535, 19, api.MaxLine}),
		entries([4]int{0, 65535, 19, 1}, [4]int{1, 0, 0, 0}),
	} {
		if _, err := obj.Pack(l); err != api.OK {
			t.Errorf("Pack of %v: %d", l, err)
		}
	}
}

// P3.3: the instructions of line programs.
func TestUnpack(t *testing.T) {
	for _, c := range []struct {
		program string
		want    []api.Line
	}{
		{"", nil},
		{"\x01\x05\x02\x08\x02\x07\x03\x13\x04\x0f", nil},
		{"\x05", entries([4]int{0, 0, 0, 0})},
		{"\x44", entries([4]int{0, 0, 0, 0})},
		{"\x01\x00\x02\x00\x03\x00\x05", entries([4]int{0, 0, 0, 0})},
		{"\x01\x05\x02\x06\x03\x02\x05", entries([4]int{0, 5, 2, 3})},
		{"\x01\x05\x02\x06\x03\x02\x04\x03\x05", entries([4]int{3, 0, 2, 3})},
		{"\x01\x02\x01\x03\x02\x06\x02\x03\x05\x01\x01\x05", entries([4]int{0, 5, 0, 1}, [4]int{0, 6, 0, 1})},
		{"\xff\xff", entries([4]int{0, 44, 0, 11}, [4]int{0, 88, 0, 22})},
		{"\x02\x10\x40\x50", entries([4]int{0, 0, 0, 4}, [4]int{0, 4, 0, 0})},
		{"\x01\xff\xff\x03\x05", entries([4]int{0, 65535, 0, 0})},
		{"\x01\xff\xff\x03\x04\x01\x05", entries([4]int{1, 0, 0, 0})},
		{"\x03\x05\x45\x03\x00\x02\x01\x54", entries([4]int{0, 0, 5, 1}, [4]int{0, 4, 0, 0})},
		{"\x02\x80\x80\x80\x01\x05", entries([4]int{0, 0, 0, api.MaxLine})},
	} {
		l, err := obj.Unpack([]byte(c.program))
		if err != api.OK || !slices.Equal(l, c.want) {
			t.Errorf("Unpack of %q: %v, %d, want %v", c.program, l, err, c.want)
		}
	}
}

// P3.3: what is no valid line program.
func TestUnpackOfNoProgram(t *testing.T) {
	bad := []string{
		"\x01", "\x02", "\x03", "\x04", "\x05\x01", "\x01\x80", "\x01\xff\xff", "\x02\x81",
		"\x01\x80\x00", "\x02\x80\x00", "\x03\x81\x00", "\x04\x81\x00", "\x01\x80\x80\x80\x80\x10", "\x01\xff\xff\xff\xff\x0f", "\x01\xff\xff\xff\xff\xff\x01",
		"\x04\x00", "\x04\x10", "\x04\x0f\x04\x01", "\x04\xff\xff\xff\xff\x0f",
		"\x03\x14", "\x03\x13\x03\x14",
		"\x01\x80\x80\x04", "\x01\xff\xff\x03\x01\x01", "\x01\xff\xff\x03\x54", "\x01\x80\x80\x04\x04\x01\x05",
		"\x02\x01", "\x02\x01\x02\x02", "\x02\x82\x80\x80\x01", "\x02\x80\x80\x80\x01\x45", "\x02\x82\x80\x80\x01\x02\x01", "\x02\xff\xff\xff\xff\x0f", "\x02\xfe\xff\xff\xff\x0f",
		"\x40", "\x41", "\x42", "\x43", "\x45\x50", "\x02\x08\x40\x50",
		"\x05\x05", "\x44\x44", "\x45\x01\x00\x05", "\x45\x02\x02\x05", "\x01\x04\x05\x04\x01\x05\x05",
		"\x03\x01\x05", "\x03\x01\x44", "\x03\x01\x45\x53",
	}
	for c := range 256 {
		if c == 0 || c > 5 && c < 64 {
			bad = append(bad, string([]byte{byte(c)}), string([]byte{5, byte(c)}), string([]byte{byte(c), 0}))
		}
	}
	for _, s := range bad {
		if l, err := obj.Unpack([]byte(s)); err != api.ErrProgram || len(l) > 0 {
			t.Errorf("Unpack of %q: %v, %d", s, l, err)
		}
	}
	program := append([]byte{5}, bytes.Repeat([]byte{0x54}, api.MaxLines-1)...)
	if l, err := obj.Unpack(program); err != api.OK || len(l) != api.MaxLines {
		t.Errorf("%d entries, %d", len(l), err)
	}
	if l, err := obj.Unpack(append(program, 0x54)); err != api.ErrProgram || len(l) > 0 {
		t.Errorf("%d entries, %d", len(l), err)
	}
}

// execute is a plain machine for line programs.
func execute(program []byte) ([]api.Line, bool) {
	var table []api.Line
	var v api.Line
	for len(program) > 0 {
		op := program[0]
		program = program[1:]
		n := 0
		if op >= 1 && op <= 4 {
			u, size := binary.Uvarint(program)
			if size <= 0 || u > math.MaxUint32 || size != len(binary.AppendUvarint(nil, u)) {
				return nil, false
			}
			program, n = program[size:], int(u)
		}
		switch op {
		case 1:
			v.Off += n
		case 2:
			v.Line += n>>1 ^ -(n & 1)
		case 3:
			v.File = n
		case 4:
			v.Section, v.Off = v.Section+n, 0
		}
		if op >= 64 {
			v.Off += 4 * (int(op-64) / 16)
			v.Line += int(op-64)%16 - 4
		}
		isValid := op >= 1 && op <= 5 || op >= 64
		if !isValid || op == 4 && n == 0 || v.Section > 15 || v.Off > 65535 || v.File > 19 || v.Line < 0 || v.Line > api.MaxLine {
			return nil, false
		}
		if op >= 5 {
			table = append(table, v)
			i := len(table) - 1
			if i > 0 && placeOrder(table[i-1], v) >= 0 || v.Line == 0 && v.File != 0 {
				return nil, false
			}
		}
	}
	return table, len(table) <= api.MaxLines
}

// wantUnpacked holds that a program is executed as it should be, and that none of the same table is shorter than Pack's. It reports whether the program is valid.
func wantUnpacked(t *testing.T, program []byte) bool {
	t.Helper()
	want, is := execute(program)
	l, err := obj.Unpack(program)
	if !is {
		if err != api.ErrProgram || len(l) > 0 {
			t.Fatalf("Unpack of %v: %v, %d", program, l, err)
		}
		return false
	}
	if err != api.OK || !slices.Equal(l, want) {
		t.Fatalf("Unpack of %v: %v, %d, want %v", program, l, err, want)
	}
	b, err := obj.Pack(l)
	if err != api.OK || len(b) > len(program) {
		t.Fatalf("%v is packed as %v, which is no shorter than %v, %d", l, b, program, err)
	}
	return true
}

// P3.3, P3.7: all short programs.
func TestShortPrograms(t *testing.T) {
	for c := range 1 << 16 {
		wantUnpacked(t, []byte{byte(c)})
		wantUnpacked(t, []byte{byte(c >> 8), byte(c)})
	}
	alphabet := []byte{0, 1, 2, 3, 4, 5, 12, 63, 64, 68, 69, 88, 128, 255}
	program := make([]byte, 5)
	valid := 0
	var extend func(n int)
	extend = func(n int) {
		if n > 0 && wantUnpacked(t, program[:n]) {
			valid++
		}
		if n == len(program) {
			return
		}
		for _, c := range alphabet {
			program[n] = c
			extend(n + 1)
		}
	}
	extend(0)
	if valid < 10000 {
		t.Errorf("only %d valid programs", valid)
	}
}

// P3.3, P3.7: long programs that could be shorter.
func TestLongPrograms(t *testing.T) {
	valid := 0
	for seed := range uint64(4000) {
		r := random(seed)
		var b []byte
		for range r.IntN(30) {
			switch r.IntN(9) {
			case 0:
				b = binary.AppendUvarint(append(b, 1), uint64(pick(r, 0, 1, 2, 4, 44, 127, 128, r.IntN(3000))))
			case 1, 2:
				b = binary.AppendVarint(append(b, 2), int64(pick(r, 0, 1, 4, 11, 63, 64, r.IntN(30000))))
			case 3:
				b = binary.AppendVarint(append(b, 2), int64(-r.IntN(20)))
			case 4:
				b = append(b, 3, byte(r.IntN(21)))
			case 5:
				b = append(b, 4, byte(1+r.IntN(2)))
			case 6:
				b = append(b, 1, 1, 5)
			default:
				b = append(b, byte(84+r.IntN(172)))
			}
		}
		if wantUnpacked(t, b) {
			valid++
		}
	}
	if valid < 500 {
		t.Errorf("only %d valid programs", valid)
	}
}

// P3.7: the way from one entry to the next is the shortest one: that of the offset and that of the line are found on their own, as sums of what one instruction each can do.
func TestShortestWays(t *testing.T) {
	const most = 600
	offs := cheapest(most, func(n int) int { return 1 + len(binary.AppendUvarint(nil, uint64(n))) })
	ups := cheapest(most, func(n int) int { return 1 + len(binary.AppendVarint(nil, int64(n))) })
	downs := cheapest(most, func(n int) int { return 1 + len(binary.AppendVarint(nil, int64(-n))) })
	lineCost := func(n int) int {
		if n < 0 {
			return downs[-n]
		}
		return ups[n]
	}
	for d := 1; d < most; d++ {
		best := math.MaxInt
		for k := 0; k <= 44 && k <= d; k += 4 {
			best = min(best, offs[d-k])
		}
		wantLength(t, entries([4]int{0, 1, 0, 5}, [4]int{0, 1 + d, 0, 5}), 4+best)
	}
	for e := 12 - most; e < most-12; e++ {
		best := math.MaxInt
		for k := -4; k <= 11; k++ {
			best = min(best, lineCost(e-k))
		}
		wantLength(t, entries([4]int{0, 0, 0, 3000}, [4]int{0, 4, 0, 3000 + e}), 5+best)
	}
}

// cheapest returns the least costs of the numbers below n, as sums of numbers that have costs.
func cheapest(n int, cost func(int) int) []int {
	l := make([]int, n)
	for i := 1; i < n; i++ {
		l[i] = math.MaxInt
		for part := 1; part <= i; part++ {
			l[i] = min(l[i], l[i-part]+cost(part))
		}
	}
	return l
}

func wantLength(t *testing.T, l []api.Line, n int) {
	t.Helper()
	if b, err := obj.Pack(l); err != api.OK || len(b) != n {
		t.Fatalf("Pack of %v: %v, %d, want %d bytes", l, b, err, n)
	}
}

// P3.4: the entry of an offset.
func TestLineAt(t *testing.T) {
	o := sample()
	for _, c := range []struct {
		section, off int
		want         api.Line
		found        bool
	}{
		{0, 0, entry(0, 0, 0, 1), true},
		{0, 3, entry(0, 0, 0, 1), true},
		{0, 4, entry(0, 4, 1, 3), true},
		{0, 11, entry(0, 4, 1, 3), true},
		{0, 12, api.Line{}, false},
		{0, 15, api.Line{}, false},
		{0, 16, api.Line{}, false},
		{0, -1, api.Line{}, false},
		{0, math.MinInt, api.Line{}, false},
		{0, math.MaxInt, api.Line{}, false},
		{1, 18, api.Line{}, false},
		{1, 19, entry(1, 19, 0, api.MaxLine), true},
		{1, 20, api.Line{}, false},
		{2, 30, api.Line{}, false},
		{2, 31, entry(2, 31, 1, 2), true},
		{2, 32, api.Line{}, false},
		{3, 0, api.Line{}, false},
		{-1, 0, api.Line{}, false},
		{-2, 0, api.Line{}, false},
		{math.MaxInt, 0, api.Line{}, false},
		{math.MinInt, 0, api.Line{}, false},
	} {
		if l, found := obj.LineAt(o, c.section, c.off); l != c.want || found != c.found {
			t.Errorf("LineAt of %d, %d: %v, %v", c.section, c.off, l, found)
		}
	}
}

// P3.4: the entry of an offset of an object that is not valid is the last one of the list.
func TestLineAtOfInvalidObjects(t *testing.T) {
	o := sample()
	o.Lines = entries([4]int{0, 8, 77, 1}, [4]int{3, 0, 0, 5}, [4]int{0, -3, -1, -2}, [4]int{-1, 0, 0, 5}, [4]int{0, 2, 0, 9}, [4]int{0, 10, 0, 0}, [4]int{0, 9, 0, api.MaxLine + 1})
	for off, want := range map[int]api.Line{0: entry(0, -3, -1, -2), 1: entry(0, -3, -1, -2), 2: entry(0, 2, 0, 9), 8: entry(0, 2, 0, 9), 9: entry(0, 9, 0, api.MaxLine+1), 15: entry(0, 9, 0, api.MaxLine+1)} {
		if l, found := obj.LineAt(o, 0, off); l != want || !found {
			t.Errorf("LineAt of %d: %v, %v, want %v", off, l, found, want)
		}
	}
	for _, x := range [][2]int{{0, -1}, {0, -3}, {0, 16}, {1, 0}, {3, 0}, {-1, 0}} {
		if l, found := obj.LineAt(o, x[0], x[1]); l != (api.Line{}) || found {
			t.Errorf("LineAt of %v: %v, %v", x, l, found)
		}
	}
	for _, c := range []struct {
		zero, off int
		found     bool
	}{
		{-2, 13, true}, {-2, 14, false}, {-16, 0, false}, {-100, 0, false}, {math.MinInt, 0, false},
		{math.MaxInt, 0, true}, {math.MaxInt, math.MaxInt, true}, {math.MaxInt - 16, math.MaxInt, false}, {math.MaxInt - 16, math.MaxInt - 1, true},
	} {
		o := api.Object{Sections: []api.Section{{B: make([]byte, 16), Zero: c.zero}}, Lines: entries([4]int{0, 0, 0, 1})}
		if l, found := obj.LineAt(o, 0, c.off); found != c.found || found && l != entry(0, 0, 0, 1) || !found && l != (api.Line{}) {
			t.Errorf("LineAt of %d with Zero %d: %v, %v", c.off, c.zero, l, found)
		}
	}
}

// P3.8: an entry holds up to the next one.
func TestLinesHold(t *testing.T) {
	for seed := range uint64(300) {
		o := randomObject(random(seed))
		for section, s := range o.Sections {
			var now api.Line
			for off := range lengthOf(s) {
				i, is := slices.BinarySearchFunc(o.Lines, entry(section, off, 0, 0), placeOrder)
				if is {
					now = o.Lines[i]
				}
				l, found := obj.LineAt(o, section, off)
				if found != (now.Line != 0) || found && l != now || !found && l != (api.Line{}) {
					t.Fatalf("LineAt of %d, %d: %v, %v, want %v", section, off, l, found, now)
				}
			}
		}
	}
}
