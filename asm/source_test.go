package asm_test

import (
	"bytes"
	"fmt"
	"math"
	"slices"
	"strings"
	"testing"

	"candling/api"
	"candling/asm"
)

// wantSource holds that the source text of an object is some lines, and that they are assembled to the object.
func wantSource(t *testing.T, o api.Object, want ...string) {
	t.Helper()
	s, err := asm.Source(o)
	if err != api.OK || s != lines(want...) {
		t.Errorf("Source of %+v: %d\n%s\nwant\n%s", o, err, s, lines(want...))
	}
	wantObject(t, s, "", o)
}

// P2.3: the chapter's example, and the empty object.
func TestSourceExamples(t *testing.T) {
	wantSource(t, loop(), ".local loop", ".section text, rx", "loop:", "addk r1, r1, -1", "jcc ne, loop", "ret")
	for _, o := range []api.Object{{}, {Sections: []api.Section{}, Symbols: []api.Symbol{}, Relocs: []api.Reloc{}, Files: []string{}, Lines: []api.Line{}}} {
		if s, err := asm.Source(o); s != "" || err != api.OK {
			t.Errorf("Source of the empty object: %q, %d", s, err)
		}
	}
}

// P2.3: files and symbols stand ahead of all sections.
func TestSourceOfSymbols(t *testing.T) {
	wantSource(t, api.Object{
		Sections: []api.Section{section("s", 7, 1, 0, 0, 0), section("z", 1)},
		Symbols: []api.Symbol{
			{Name: "local"},
			{Name: "g", Value: 4, Bind: api.SbGlobal, Kind: api.SyFunc},
			{Name: "w", Bind: api.SbWeak, Kind: api.SyData, Size: 3},
			imported("i"),
			{Name: "iw", Section: api.SecNone, Bind: api.SbWeak, Kind: api.SyFunc},
			{Name: "id", Section: api.SecNone, Bind: api.SbGlobal, Kind: api.SyData},
			{Name: "a", Section: api.SecAbs},
			{Name: "ag", Section: api.SecAbs, Value: math.MaxUint32, Bind: api.SbGlobal, Kind: api.SyData},
			{Name: "aw", Section: api.SecAbs, Value: 0xABC, Bind: api.SbWeak},
			{Name: "z", Section: 1, Kind: api.SyData},
			{Name: "f", Size: 4, Kind: api.SyFunc},
		},
		Files: []string{"b", `a"\`},
	},
		`.file "b"`, `.file "a\"\\"`,
		".local local",
		".local g", ".global g", ".func g",
		".local w", ".weak w", ".object w", ".size w, 3",
		".import i",
		".import iw", ".weak iw", ".func iw",
		".import id", ".object id",
		".abs a, 0x0",
		".abs ag, 0xffffffff", ".global ag", ".object ag",
		".abs aw, 0xabc", ".weak aw",
		".local z", ".object z",
		".local f", ".func f", ".size f, 4",
		".section s, rwx", "local:", "w:", "f:", "nop", "g:", ".section z, r", "z:",
	)
}

// P2.3: bytes without the right to be executed, in lines of up to 16, that end at labels, entries and fields.
func TestSourceOfData(t *testing.T) {
	b := make([]byte, 60)
	for i := range b {
		b[i] = byte(200 + i)
	}
	clear(b[20:34])
	wantSource(t, api.Object{
		Sections: []api.Section{aligned(withZero(section("d", 3, b...), 10), 256), section("e", 2, 42, 0, 0, 0), aligned(section("f", 1), 2)},
		Symbols:  []api.Symbol{{Name: "x", Value: 18}, {Name: "y", Value: 70}, {Name: "z", Value: 62}, {Name: "v", Value: 18}, {Name: "u", Value: 20}},
		Relocs: relocs([][5]int{
			{0, 20, api.RlWord, 1, 0}, {0, 25, api.RlHalf, 0, 1}, {0, 27, api.RlByte, 4, -1}, {0, 28, api.RlDiff, 1, 1<<31 - 1}, {0, 32, api.RlByte, 3, -1 << 31}, {0, 33, api.RlByte, 2, 100},
		}),
	},
		".local x", ".local y", ".local z", ".local v", ".local u",
		".section d, rw", ".align 256",
		".byte 200, 201, 202, 203, 204, 205, 206, 207, 208, 209, 210, 211, 212, 213, 214, 215", ".byte 216, 217",
		"x:", "v:", ".byte 218, 219", "u:", ".word y", ".byte 0", ".half x+1", ".byte u-1", ".diff y+2147483647", ".byte v-2147483648", ".byte z+100",
		".byte 234, 235, 236, 237, 238, 239, 240, 241, 242, 243, 244, 245, 246, 247, 248, 249", ".byte 250, 251, 252, 253, 254, 255, 0, 1, 2, 3",
		".reserve 2", "z:", ".reserve 8", "y:",
		".section e, w", ".byte 42, 0, 0, 0",
		".section f, r", ".align 2",
	)
	wantSource(t, api.Object{
		Sections: []api.Section{section("d", 3, 0, 0, 0, 0)},
		Symbols:  []api.Symbol{imported("p")},
		Relocs:   relocs([][5]int{{0, 0, api.RlPage, 0, -5}}),
	}, ".import p", ".section d, rw", ".page p-5")
}

// P2.3: entries of the line table, with the file where it is not the one that was written last.
func TestSourceOfLines(t *testing.T) {
	wantSource(t, api.Object{
		Sections: []api.Section{withZero(text(1, 0, 0, 0, 42, 0, 0, 0, 9), 5), data(1, 2, 3, 4)},
		Symbols:  []api.Symbol{{Name: "x", Value: 4}, {Name: "y", Value: 12}},
		Files:    []string{"a", "b", "c"},
		Lines: entries([][4]int{
			{0, 0, 2, 1}, {0, 4, 0, 7}, {0, 6, 0, 7}, {0, 9, 0, 0}, {0, 11, 0, 8}, {0, 12, 1, 1048576},
			{1, 0, 0, 0}, {1, 1, 1, 2}, {1, 3, 2, 1},
		}),
	},
		`.file "a"`, `.file "b"`, `.file "c"`, ".local x", ".local y",
		".section text, rx", ".loc 1", "nop", "x:", `.file "a"`, ".loc 7", ".byte 42, 0", ".loc 7", ".byte 0, 0, 9", ".loc 0", ".reserve 2", ".loc 8", ".reserve 1", "y:", `.file "b"`, ".loc 1048576", ".reserve 2",
		".section data, rw", ".loc 0", ".byte 1", ".loc 2", ".byte 2, 3", `.file "c"`, ".loc 1", ".byte 4",
	)
	wantSource(t, api.Object{Sections: []api.Section{data(1)}, Lines: []api.Line{{}}}, ".section data, rw", ".loc 0", ".byte 1")
}

// P2.3: instructions stand where there are whole ones.
func TestSourceOfCode(t *testing.T) {
	wantSource(t, sections(section("c", 4, 62, 0, 0, 0, 1, 2, 3, 4, 1, 0, 0, 0, 64, 1, 0, 0, 255, 0, 0, 0, 1, 0, 0, 1, 1, 0)),
		".section c, x", ".byte 62, 0, 0, 0", ".byte 1, 2, 3, 4", "nop", "set r1, 0xff", ".byte 1, 0, 0, 1", ".byte 1, 0")
	wantSource(t, withLabels(section("c", 7, 1, 0, 0, 0, 64, 1, 0, 0, 42, 0, 0, 0, 1, 0, 0, 0), 1, 8, 12),
		".local l1", ".local l8", ".local l12", ".section c, rwx", ".byte 1", "l1:", ".byte 0, 0, 0, 64", ".byte 1, 0, 0", "l8:", "ret", "l12:", "nop")
	wantSource(t, withLabels(section("c", 5, 64, 1, 0, 0, 42, 0, 0, 0), 7), ".local l7", ".section c, rx", ".byte 64, 1, 0, 0", ".byte 42, 0, 0", "l7:", ".byte 0")
	wantSource(t, withLabels(section("c", 5, 64, 1, 0, 0, 42, 0, 0, 0), 0, 8), ".local l0", ".local l8", ".section c, rx", "l0:", "set r1, 0x2a", "l8:")
	wantSource(t, sections(withZero(text(64, 1, 0, 0), 4)), ".section text, rx", ".byte 64, 1, 0, 0", ".reserve 4")
	wantSource(t, sections(section("d", 3, 1, 0, 0, 0)), ".section d, rw", ".byte 1, 0, 0, 0")
}

// withLabels is an object of a section with labels at some offsets.
func withLabels(s api.Section, offsets ...int) api.Object {
	o := sections(s)
	for _, off := range offsets {
		o.Symbols = append(o.Symbols, api.Symbol{Name: fmt.Sprint("l", off), Value: uint32(off)})
	}
	return o
}

// P2.3: relocations in instructions.
func TestSourceOfCodeWithRelocs(t *testing.T) {
	code := func(b []byte, relocs ...api.Reloc) api.Object {
		return api.Object{Sections: []api.Section{text(b...)}, Symbols: []api.Symbol{imported("x")}, Relocs: relocs}
	}
	begin := []string{".import x", ".section text, rx"}
	want := func(o api.Object, l ...string) {
		t.Helper()
		wantSource(t, o, append(slices.Clone(begin), l...)...)
	}
	jmp := []byte{66, 0, 0, 0, 0, 0, 0, 0}
	want(code(jmp, reloc(0, 4, api.RlWord, 0, 0)), "jmp x")
	want(code(jmp, reloc(0, 4, api.RlWord, 0, 4)), "jmp x+4")
	want(code(jmp, reloc(0, 4, api.RlWord, 0, -4)), "jmp x-4")
	want(code(jmp, reloc(0, 4, api.RlDiff, 0, 0)), ".byte 66, 0, 0, 0", ".diff x")
	want(code(jmp, reloc(0, 4, api.RlPage, 0, 0)), ".byte 66, 0, 0, 0", ".page x")
	want(code(jmp, reloc(0, 4, api.RlHalf, 0, 0)), ".byte 66, 0, 0, 0", ".half x", ".byte 0, 0")
	want(code(jmp, reloc(0, 6, api.RlHalf, 0, 0)), ".byte 66, 0, 0, 0", ".byte 0, 0", ".half x")
	want(code(jmp, reloc(0, 7, api.RlByte, 0, 0)), ".byte 66, 0, 0, 0", ".byte 0, 0, 0", ".byte x")
	want(code(jmp, reloc(0, 1, api.RlByte, 0, 0)), ".byte 66", ".byte x", ".byte 0, 0, 0, 0", ".byte 0, 0")
	want(code(jmp, reloc(0, 3, api.RlWord, 0, 0)), ".byte 66, 0, 0", ".word x", ".byte 0")
	want(code(append([]byte{0, 0, 0, 0}, jmp...), reloc(0, 0, api.RlWord, 0, 0)), ".word x", "jmp 0x0")
	want(code([]byte{1, 0, 0, 0, 0, 0, 0, 0}, reloc(0, 4, api.RlWord, 0, 0)), "nop", ".word x")
	want(code([]byte{69, 0x21, 0, 0, 0, 0, 0, 0}, reloc(0, 4, api.RlWord, 0, 1)), "loadi r1, [r2+x+1]")
	want(code([]byte{70, 0x21, 0, 0, 0, 0, 0, 0}, reloc(0, 4, api.RlWord, 0, -1)), "storei r1, [r2+x-1]")
	want(code([]byte{71, 0, 0, 0, 0, 0, 0, 0, 64, 0, 0, 0, 0, 0, 0, 0}, reloc(0, 4, api.RlWord, 0, 0), reloc(0, 12, api.RlWord, 0, -1<<31)), "lea r0, r0, r0, 0, x", "set r0, x-2147483648")
}

// valid is an object in which everything may be changed.
func valid() api.Object {
	return api.Object{
		Sections: []api.Section{withZero(text(66, 0, 0, 0, 0, 0, 0, 0, 0, 0, 0, 0), 4), data(1, 2, 0, 0, 0, 0, 0)},
		Symbols: []api.Symbol{
			{Name: "f", Value: 8, Size: 8, Bind: api.SbGlobal, Kind: api.SyFunc},
			{Name: "d", Section: 1, Value: 1, Size: 6, Kind: api.SyData},
			imported("i"),
			{Name: "a", Section: api.SecAbs, Value: 1 << 31, Bind: api.SbWeak},
		},
		Relocs: relocs([][5]int{{0, 4, api.RlWord, 2, 0}, {0, 8, api.RlDiff, 1, 0}, {1, 2, api.RlHalf, 0, 0}, {1, 4, api.RlByte, 3, 0}}),
		Files:  []string{"f", "g"},
		Lines:  entries([][4]int{{0, 0, 1, 1}, {0, 15, 0, 1048576}, {1, 0, 0, 0}, {1, 6, 1, 3}}),
	}
}

// P2.3: objects that are not valid.
func TestSourceOfNoObjects(t *testing.T) {
	if s, err := asm.Source(valid()); err != api.OK {
		t.Fatalf("Source of the object without a change: %q, %d", s, err)
	}
	for i, change := range slices.Concat(badSections(), badSymbols(), badRelocs(), badLines()) {
		o := valid()
		change(&o)
		if s, err := asm.Source(o); err != api.ErrForm || s != "" {
			t.Errorf("Source with change %d: %q, %d; %+v", i, s, err, o)
		}
	}
}

func badSections() []func(*api.Object) {
	l := []func(*api.Object){
		func(o *api.Object) { o.Sections[1].Name = "text" },
		func(o *api.Object) { o.Sections[1].Zero = 65537 - 16 - 7 },
		func(o *api.Object) { o.Sections[1].Zero = 65537 },
		func(o *api.Object) { o.Sections[1].B = make([]byte, 65537-16) },
		func(o *api.Object) { o.Sections[0].Zero, o.Sections[1].Zero = math.MaxInt, math.MaxInt },
		func(o *api.Object) { o.Sections = o.Sections[:1] },
		func(o *api.Object) {
			for _, s := range many(15, "s#") {
				o.Sections = append(o.Sections, section(s, 1))
			}
		},
	}
	for _, name := range badNames() {
		l = append(l, func(o *api.Object) { o.Sections[0].Name = name })
	}
	for _, n := range []int{0, -1, 8, 13, math.MinInt, math.MaxInt} {
		l = append(l, func(o *api.Object) { o.Sections[1].Rights = n })
	}
	for _, n := range []int{0, -1, -2, 3, 255, 257, 512, math.MinInt, math.MaxInt} {
		l = append(l, func(o *api.Object) { o.Sections[0].Align = n })
	}
	for _, n := range []int{-1, -4, math.MinInt, math.MaxInt} {
		l = append(l, func(o *api.Object) { o.Sections[1].Zero = n })
	}
	return l
}

func badNames() []string {
	return []string{"", "1a", "$a", "a b", "a-b", "a:", "é", "a\n", " a", "a ", "a\x00", "a" + strings.Repeat("b", 40)}
}

func badSymbols() []func(*api.Object) {
	l := []func(*api.Object){
		func(o *api.Object) { o.Symbols[1].Name = "f" },
		func(o *api.Object) { o.Symbols[0].Size = 9 },
		func(o *api.Object) { o.Symbols[0].Value = 9 },
		func(o *api.Object) { o.Symbols[1].Value = 8; o.Symbols[1].Size = 0 },
		func(o *api.Object) { o.Symbols[1].Value = math.MaxUint32; o.Symbols[1].Size = 1 },
		func(o *api.Object) { o.Symbols[1].Kind = api.SyFunc },
		func(o *api.Object) { o.Symbols[2].Bind = api.SbLocal },
		func(o *api.Object) { o.Symbols[2].Value = 1 },
		func(o *api.Object) { o.Symbols[2].Size = 1 },
		func(o *api.Object) { o.Symbols[3].Size = 1 },
		func(o *api.Object) { o.Symbols[3].Size = -1 },
		func(o *api.Object) {
			for _, s := range many(497, "s#") {
				o.Symbols = append(o.Symbols, imported(s))
			}
		},
	}
	for _, name := range badNames() {
		l = append(l, func(o *api.Object) { o.Symbols[3].Name = name })
	}
	for _, n := range []int{-1, -8, math.MinInt, math.MaxInt} {
		l = append(l, func(o *api.Object) { o.Symbols[0].Size = n })
	}
	for _, n := range []int{-3, 2, 16, math.MinInt, math.MaxInt} {
		l = append(l, func(o *api.Object) { o.Symbols[1].Section = n })
	}
	for _, n := range []int{-1, 3, math.MinInt, math.MaxInt} {
		l = append(l, func(o *api.Object) { o.Symbols[0].Bind = n })
		l = append(l, func(o *api.Object) { o.Symbols[2].Bind = n })
		l = append(l, func(o *api.Object) { o.Symbols[1].Kind = n })
	}
	return l
}

func badRelocs() []func(*api.Object) {
	l := []func(*api.Object){
		func(o *api.Object) { o.Relocs[0].Off = 5 },
		func(o *api.Object) { o.Relocs[0], o.Relocs[1] = o.Relocs[1], o.Relocs[0] },
		func(o *api.Object) { o.Relocs[0], o.Relocs[3] = o.Relocs[3], o.Relocs[0] },
		func(o *api.Object) { o.Relocs[1] = o.Relocs[0] },
		func(o *api.Object) { o.Relocs[2].Kind = api.RlWord },
		func(o *api.Object) { o.Relocs[3].Off = 3 },
		func(o *api.Object) { o.Relocs[3].Off = 7 },
		func(o *api.Object) { o.Relocs[3].Kind = api.RlWord },
		func(o *api.Object) { o.Relocs[3] = reloc(1, 6, api.RlHalf, 0, 0) },
		func(o *api.Object) { o.Relocs[1].Off = 9 },
		func(o *api.Object) { o.Relocs[1].Off = 12 },
		func(o *api.Object) { o.Sections[0].B[4] = 1 },
		func(o *api.Object) { o.Sections[0].B[7] = 1 },
		func(o *api.Object) { o.Sections[0].B[11] = 255 },
		func(o *api.Object) { o.Sections[1].B[3] = 1 },
		func(o *api.Object) { o.Sections[1].B[4] = 1 },
		func(o *api.Object) { o.Symbols[0].Value, o.Symbols[0].Size = 5, 0 },
		func(o *api.Object) { o.Symbols[0].Value, o.Symbols[0].Size = 7, 0 },
		func(o *api.Object) { o.Symbols[0].Value, o.Symbols[0].Size = 9, 0 },
		func(o *api.Object) { o.Symbols[1].Value, o.Symbols[1].Size = 3, 0 },
		func(o *api.Object) { o.Lines[1].Off = 5 },
		func(o *api.Object) { o.Lines[1].Off = 11 },
		func(o *api.Object) { o.Lines[3].Off = 3 },
		func(o *api.Object) {
			o.Relocs = nil
			o.Sections[1].B = make([]byte, 2001)
			for i := range 2001 {
				o.Relocs = append(o.Relocs, reloc(1, i, api.RlByte, 0, 0))
			}
		},
	}
	for _, n := range []int{-1, 2, math.MinInt, math.MaxInt} {
		l = append(l, func(o *api.Object) { o.Relocs[3].Section = n })
	}
	for _, n := range []int{-1, math.MinInt, math.MaxInt, math.MaxInt - 3} {
		l = append(l, func(o *api.Object) { o.Relocs = o.Relocs[:1]; o.Relocs[0].Off = n })
	}
	for _, n := range []int{-1, 0, 6, math.MinInt, math.MaxInt} {
		l = append(l, func(o *api.Object) { o.Relocs[0].Kind = n })
	}
	for _, n := range []int{-1, 4, math.MinInt, math.MaxInt} {
		l = append(l, func(o *api.Object) { o.Relocs[0].Symbol = n })
	}
	for _, n := range []int{1 << 31, -1<<31 - 1, math.MinInt, math.MaxInt} {
		l = append(l, func(o *api.Object) { o.Relocs[0].Add = n })
	}
	return l
}

func badLines() []func(*api.Object) {
	l := []func(*api.Object){
		func(o *api.Object) { o.Files[1] = "f" },
		func(o *api.Object) { o.Files = append(o.Files, many(19, "s#")...) },
		func(o *api.Object) { o.Files = o.Files[:1] },
		func(o *api.Object) { o.Lines[1].Off = 16 },
		func(o *api.Object) { o.Lines[1].Off = 0 },
		func(o *api.Object) { o.Lines[3].Off = 7 },
		func(o *api.Object) { o.Lines[3].Off = 0 },
		func(o *api.Object) { o.Lines[1], o.Lines[2] = o.Lines[2], o.Lines[1] },
		func(o *api.Object) { o.Lines[2].File = 1 },
		func(o *api.Object) {
			o.Sections[1].Zero, o.Lines = 5000, nil
			for i := range 4001 {
				o.Lines = append(o.Lines, entry(1, i+4, 0, 0))
			}
		},
	}
	for _, name := range []string{"", " ", "a b", "a\n", "\x7f", "é", strings.Repeat("f", 101)} {
		l = append(l, func(o *api.Object) { o.Files[0] = name })
	}
	for _, n := range []int{-1, 2, math.MinInt, math.MaxInt} {
		l = append(l, func(o *api.Object) { o.Lines[3].Section = n })
		l = append(l, func(o *api.Object) { o.Lines[3].File = n })
	}
	for _, n := range []int{-1, math.MinInt, math.MaxInt} {
		l = append(l, func(o *api.Object) { o.Lines[0].Off = n })
	}
	for _, n := range []int{-1, 1048577, math.MinInt, math.MaxInt} {
		l = append(l, func(o *api.Object) { o.Lines[3].Line = n })
	}
	return l
}

// P2.3: objects at the limits of objects are valid, but texts have limits of their own.
func TestSourceLimits(t *testing.T) {
	wantLimit := func(o api.Object) {
		t.Helper()
		if s, err := asm.Source(o); err != api.ErrLimit || s != "" {
			t.Errorf("Source of a large object: %d bytes, %d", len(s), err)
		}
	}
	wantLimit(sections(data(make([]byte, 65536)...)))
	wantLimit(sections(text(bytes.Repeat([]byte{1, 0, 0, 0}, 5000)...)))
	o := sections(text(bytes.Repeat([]byte{1, 0, 0, 0}, 4998)...))
	s, err := asm.Source(o)
	if err != api.OK || strings.Count(s, "\n") != 4999 {
		t.Errorf("Source of 4998 instructions: %d bytes, %d", len(s), err)
	}
	o = sections(withZero(data(1, 2), 65534))
	for _, s := range many(498, "s#") {
		o.Symbols = append(o.Symbols, api.Symbol{Name: s, Section: 0, Value: 65536})
	}
	o.Symbols = append(o.Symbols, imported("."+strings.Repeat("$", 39)), api.Symbol{Name: "y", Value: 1, Size: 65535})
	for _, f := range many(20, "f#") {
		o.Files = append(o.Files, f)
	}
	for i := range 1900 {
		o.Lines = append(o.Lines, entry(0, 3+7*i, 19, 1+i))
	}
	if len(o.Symbols) != 500 {
		t.Fatal("not as many symbols as there may be")
	}
	s, err = asm.Source(o)
	if err != api.OK {
		t.Fatalf("Source of an object with 500 symbols: %d", err)
	}
	wantObject(t, s, "", o)
	o = sections(many16()...)
	s, err = asm.Source(o)
	if err != api.OK {
		t.Fatalf("Source of an object with 16 sections: %d", err)
	}
	wantObject(t, s, "", o)
	o = sections(data(make([]byte, 2000)...))
	o.Symbols = []api.Symbol{imported("x")}
	for i := range 2000 {
		o.Relocs = append(o.Relocs, reloc(0, i, api.RlByte, 0, 0))
	}
	s, err = asm.Source(o)
	if err != api.OK {
		t.Fatalf("Source of an object with 2000 relocations: %d", err)
	}
	wantObject(t, s, "", o)
	o = sections(withZero(data(), 65536))
	for i := range 4000 {
		o.Lines = append(o.Lines, api.Line{Off: i})
	}
	wantLimit(o)
}

func many16() []api.Section {
	var l []api.Section
	for i, s := range many(16, "s#") {
		l = append(l, aligned(withZero(section(s, 1+i%7), 4096), 1<<(i%9)))
	}
	return l
}
