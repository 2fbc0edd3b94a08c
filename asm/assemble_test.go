package asm_test

import (
	"bytes"
	"slices"
	"strings"
	"testing"

	"candling/api"
	"candling/asm"
)

// section is a section of rights and bytes.
func section(name string, rights int, b ...byte) api.Section {
	return api.Section{Name: name, Rights: rights, Align: 1, B: b}
}

func text(b ...byte) api.Section { return section("text", 5, b...) }
func data(b ...byte) api.Section { return section("data", 3, b...) }

func withZero(s api.Section, n int) api.Section {
	s.Zero = n
	return s
}

func aligned(s api.Section, n int) api.Section {
	s.Align = n
	return s
}

func imported(name string) api.Symbol {
	return api.Symbol{Name: name, Section: api.SecNone, Bind: api.SbGlobal}
}

func sections(l ...api.Section) api.Object { return api.Object{Sections: l} }

// loopBytes are those of the chapter's example.
func loopBytes() []byte { return []byte{18, 17, 0, 255, 67, 0, 16, 0, 0, 0, 0, 0, 42, 0, 0, 0} }

func loop() api.Object {
	return api.Object{
		Sections: []api.Section{text(loopBytes()...)},
		Symbols:  []api.Symbol{{Name: "loop"}},
		Relocs:   []api.Reloc{{Off: 8, Kind: api.RlWord}},
	}
}

const loopSource = ".text\nloop: addk r1, r1, -1\njcc ne, loop\nret\n"

// P2.2: the chapter's examples.
func TestAssembleExamples(t *testing.T) {
	wantObject(t, loopSource, "", loop())
	o := loop()
	o.Files = []string{"f"}
	o.Lines = entries([][4]int{{0, 0, 0, 2}, {0, 4, 0, 3}, {0, 12, 0, 4}})
	wantObject(t, loopSource, "f", o)
	wantObject(t, strings.TrimSuffix(loopSource, "\n"), "f", o)
	wantError(t, lines(".data", ".word x-4, 'a'"), "", 2, api.ErrName)
	wantError(t, lines(".data", ".byte 256"), "", 2, api.ErrValue)
	wantError(t, lines("nop"), "", 1, api.ErrSection)
	wantError(t, lines(".text", "nopp"), "", 2, api.ErrSyntax)
	wantError(t, lines(".text", "push r16"), "", 2, api.ErrOperand)
	wantError(t, lines(".equ k, 3", ".data", ".byte k+1, -k", ".reserve 4", ".byte 1"), "", 5, api.ErrSection)
}

// P2.2: texts without a statement.
func TestAssembleNothing(t *testing.T) {
	for _, src := range []string{"", "\n", "\n\n \t\n", "; a comment \" '\n", "\t;\n;"} {
		wantObject(t, src, "", api.Object{})
		wantObject(t, src, "f", api.Object{})
	}
}

// P2.2: sections, in the order of their first lines.
func TestSections(t *testing.T) {
	wantObject(t, lines(".text", ".data"), "", sections(text(), data()))
	wantObject(t, lines(".data", ".byte 1", ".text", "nop", ".data", ".byte 2"), "", sections(data(1, 2), text(1, 0, 0, 0)))
	wantObject(t, lines(".section a, r", ".section b, w", ".section c, x", ".section d, rw", ".section e, rx", ".section f, wx", ".section .g$, rwx", ".section a", ".byte 7"), "",
		sections(section("a", 1, 7), section("b", 2), section("c", 4), section("d", 3), section("e", 5), section("f", 6), section(".g$", 7)))
	wantObject(t, lines(".section text, rx", ".text", ".section text", ".section data, rw", ".data", ".section data, rw"), "", sections(text(), data()))
	wantObject(t, lines(".section x, rw", ".global x", "x: .equ y, 1", ".section y, r"), "",
		api.Object{Sections: []api.Section{section("x", 3), section("y", 1)}, Symbols: []api.Symbol{{Name: "x", Bind: api.SbGlobal}}})
	for _, l := range [][]string{
		{".section a"},
		{".section text, rw", ".text"},
		{".section data, r", ".data"},
		{".text", ".section text, rwx"},
		{".section a, rw", ".section a, r"},
		{".section a, r", ".section b, rw", ".section a, rw"},
	} {
		wantError(t, lines(l...), "", len(l), api.ErrSection)
	}
	for _, s := range []string{
		"", "a b", "a, r, w", "a, wr", "a, xr", "a, rr", "a, rwxx", "a, rwxr", "a, R", "a, q", "a, rwq", "a,", ", r", "1, r", "a, 1", "a, \"r\"", "\"a\", r", "a r", "a, r w", "a:, r", "a+1, r", "-a, r", "[a], r",
	} {
		wantError(t, lines(".section "+s), "", 1, api.ErrSyntax)
	}
	for _, s := range []string{".text a", ".text ,", ".text 1", ".data rw", ".data, x"} {
		wantError(t, lines(s), "", 1, api.ErrSyntax)
	}
}

// P2.2: alignment, with bytes and with zeros.
func TestAlign(t *testing.T) {
	wantObject(t, lines(".data", ".align 8"), "", sections(aligned(data(), 8)))
	wantObject(t, lines(".data", ".byte 1", ".align 4", ".byte 2", ".align 2", ".byte 3", ".align 1"), "", sections(aligned(data(1, 0, 0, 0, 2, 0, 3), 4)))
	wantObject(t, lines(".data", ".align 2", ".byte 1", ".align 8"), "", sections(aligned(data(1, 0, 0, 0, 0, 0, 0, 0), 8)))
	wantObject(t, lines(".data", ".byte 1, 2, 3, 4", ".align 4", ".align 2"), "", sections(aligned(data(1, 2, 3, 4), 4)))
	wantObject(t, lines(".data", ".byte 1", ".reserve 2", ".align 4", ".reserve 0", "x: .align 16", ".align 1"), "",
		api.Object{Sections: []api.Section{aligned(withZero(data(1), 15), 16)}, Symbols: []api.Symbol{{Name: "x", Value: 4}}})
	wantObject(t, lines(".data", ".byte 1", ".text", "nop", ".align 256"), "", sections(data(1), aligned(text(append([]byte{1}, make([]byte, 255)...)...), 256)))
	for _, s := range []string{"0", "3", "6", "255", "257", "512", "-1", "-2", "-4", "4294967295", "65536", "1-1"} {
		wantError(t, lines(".data", ".align "+s), "", 2, api.ErrValue)
		wantError(t, lines(".align "+s), "", 1, api.ErrValue)
	}
	wantError(t, lines(".align 1"), "", 1, api.ErrSection)
	for _, s := range []string{"", "x", "4, 4", "\"a\"", "4 4", ",", "4,", "[4]", "+4", "4+", "--4", "x+1"} {
		wantError(t, lines(".data", ".align "+s), "", 2, api.ErrSyntax)
	}
}

// P2.2: numbers of one, two and four bytes.
func TestNumbersOfBytes(t *testing.T) {
	wantBytes(t, ".byte 0, 1, 255, -1, -128, 'a', 0x7F", 0, 1, 255, 255, 128, 97, 127)
	wantBytes(t, ".half 0, 1, 0x1234, 65535, -1, -32768", 0, 0, 1, 0, 0x34, 0x12, 255, 255, 255, 255, 0, 128)
	wantBytes(t, ".word 1, 0x12345678, 4294967295, -1, -0x80000000", 1, 0, 0, 0, 0x78, 0x56, 0x34, 0x12, 255, 255, 255, 255, 255, 255, 255, 255, 0, 0, 0, 128)
	wantBytes(t, ".byte 1\n.half 2\n.word 3", 1, 2, 0, 3, 0, 0, 0)
	for _, s := range []string{
		".byte 256", ".byte -129", ".byte 1, 256", ".byte 256, 1", ".byte 1+255", ".byte -128-1", ".byte 4294967295",
		".half 65536", ".half -32769", ".half 0, -32769", ".half 65535+1",
		".word 4294967295+1", ".word -0x80000000-1", ".word 4294967295+4294967295", ".word -4294967295-4294967295",
	} {
		wantError(t, lines(".data", s), "", 2, api.ErrValue)
		wantError(t, lines(s), "", 1, api.ErrValue)
	}
	for _, d := range []string{".byte", ".half", ".word", ".diff", ".page"} {
		for _, s := range []string{
			"", ",", "1,", ",1", "1,,1", "1 1", "\"a\"", "1, \"a\"", "+1", "--1", "1+", "1-", "1--1", "1+-1", "-", "+", "[1]", "1:", "r1 r2", "x y", "x 1", "1 x",
			"-x", "1-x", "x+y", "x+1+y", "x-y", "x-x", "1-x+y", "x, -y", "300, 1 1",
		} {
			wantError(t, lines(".data", d+" "+s), "", 2, api.ErrSyntax)
		}
		wantError(t, lines(".import x", d+" x"), "", 2, api.ErrSection)
		wantError(t, lines(".import x", ".data", ".reserve 1", d+" x"), "", 4, api.ErrSection)
	}
	for _, d := range []string{".diff", ".page"} {
		for _, s := range []string{"1", "k", "x, 1", "1, x", "x, k+k", "300, x"} {
			wantError(t, lines(".equ k, 1", ".data", d+" "+s), "", 3, api.ErrSyntax)
		}
	}
}

// P2.2: sums.
func TestSums(t *testing.T) {
	wantBytes(t, ".byte 1+2, 5-3, -1+4, -1-2, 1+2-3+4-5, - 7 + 8", 3, 2, 3, 253, 255, 1)
	wantBytes(t, ".word 4294967295+4294967295-4294967295, 0-0x80000000", 255, 255, 255, 255, 0, 0, 0, 128)
	wantBytes(t, ".byte 4294967295-4294967295+'b'-'a', 256-1, -129+1", 1, 255, 128)
	wantBytes(t, ".equ k, 200\n.equ j, -k-1\n.equ i, j+k\n.byte k, -k+100, j+k, k-'a', i, -i, i+i", 200, 156, 255, 103, 255, 1, 254)
	wantBytes(t, ".equ k, 4294967295\n.equ j, -0x80000000\n.word k, j, k+j", 255, 255, 255, 255, 0, 0, 0, 128, 255, 255, 255, 127)
	wantObject(t, lines(".data", ".equ k, 10", ".word k+x, x-k, k-1+x+1, x+2147483647, x-0x80000000, x+4294967295-4294967295", "x:"), "", api.Object{
		Sections: []api.Section{data(make([]byte, 24)...)},
		Symbols:  []api.Symbol{{Name: "x", Value: 24}},
		Relocs:   relocs([][5]int{{0, 0, 1, 0, 10}, {0, 4, 1, 0, -10}, {0, 8, 1, 0, 10}, {0, 12, 1, 0, 1<<31 - 1}, {0, 16, 1, 0, -1 << 31}, {0, 20, 1, 0, 0}}),
	})
}

// P2.2, P2.11: numbers that no sum has are refused, be it as values or as forms.
func TestNoSums(t *testing.T) {
	for _, s := range []string{
		".word x+2147483648", ".byte x+2147483648", ".half x-0x80000001", ".diff x+4294967295", ".page x+4294967295+4294967295",
		".abs y, 4294967295+1", ".abs y, -0x80000000-1", ".equ y, 4294967295+1", ".equ y, -0x80000000-1",
	} {
		o, line, err := asm.Assemble(lines(".import x", ".data", s), "")
		if err != api.ErrValue && err != api.ErrSyntax || line != 3 || !same(o, api.Object{}) {
			t.Errorf("%s: %v, %d in line %d", s, o, err, line)
		}
	}
}

// P2.2: relocations of all kinds, sorted by their places.
func TestRelocs(t *testing.T) {
	wantObject(t, lines(
		".import b, a",
		".data", ".byte a+1, 2, b-1000000", ".half a, 0x1234", ".word b+1",
		".text", "jmp b+8",
		".data", ".diff a-4, b", ".page b+0x100",
		".text", "lea r1, r2, r3, 2, a-1", "loadi r4, [r5+b]", "storei r4, [r5+a-4+6]",
	), "", api.Object{
		Sections: []api.Section{
			data(0, 2, 0, 0, 0, 0x34, 0x12, 0, 0, 0, 0, 0, 0, 0, 0, 0, 0, 0, 0, 0, 0, 0, 0),
			text(66, 0, 0, 0, 0, 0, 0, 0, 71, 33, 35, 0, 0, 0, 0, 0, 69, 84, 0, 0, 0, 0, 0, 0, 70, 84, 0, 0, 0, 0, 0, 0),
		},
		Symbols: []api.Symbol{imported("b"), imported("a")},
		Relocs: relocs([][5]int{
			{0, 0, api.RlByte, 1, 1}, {0, 2, api.RlByte, 0, -1000000}, {0, 3, api.RlHalf, 1, 0}, {0, 7, api.RlWord, 0, 1},
			{0, 11, api.RlDiff, 1, -4}, {0, 15, api.RlDiff, 0, 0}, {0, 19, api.RlPage, 0, 0x100},
			{1, 4, api.RlWord, 0, 8}, {1, 12, api.RlWord, 1, -1}, {1, 20, api.RlWord, 0, 0}, {1, 28, api.RlWord, 1, 2},
		}),
	})
}

// P2.2: strings and zeros.
func TestStringsAndZeros(t *testing.T) {
	wantBytes(t, `.ascii "ab", "", "\n\x80;", " "`, 97, 98, 10, 128, 59, 32)
	wantBytes(t, ".zero 3\n.byte 1\n.zero 0\n.zero 2-1", 0, 0, 0, 1, 0)
	wantObject(t, lines(".data", ".reserve 0", ".byte 9", ".reserve 3", ".reserve 4-2"), "", sections(withZero(data(9), 5)))
	wantObject(t, lines(".data", ".zero 65536"), "", sections(data(make([]byte, 65536)...)))
	wantObject(t, lines(".data", ".reserve 65536"), "", sections(withZero(data(), 65536)))
	for _, s := range []string{"", "a", "1", "\"a\" \"b\"", "\"a\",", "\"a\", b", "'a'", "\"a\"+1"} {
		wantError(t, lines(".data", ".ascii "+s), "", 2, api.ErrSyntax)
	}
	for _, d := range []string{".zero", ".reserve"} {
		for _, s := range []string{"", "x", "1, 2", "\"a\"", "1 2", "--1"} {
			wantError(t, lines(".data", d+" "+s), "", 2, api.ErrSyntax)
		}
		for _, s := range []string{"-1", "65537", "4294967295", "65536+1"} {
			wantError(t, lines(".data", d+" "+s), "", 2, api.ErrValue)
			wantError(t, lines(d+" "+s), "", 1, api.ErrValue)
		}
		wantError(t, lines(d+" 1"), "", 1, api.ErrSection)
	}
	wantError(t, lines(`.ascii "a"`), "", 1, api.ErrSection)
}

// P2.2: nothing is appended behind zeros, and their section stays as it is.
func TestClosedSections(t *testing.T) {
	for _, s := range []string{".byte 1", ".half 1", ".word 1", ".ascii \"a\"", ".zero 1", "nop", "set r1, 1"} {
		wantError(t, lines(".data", ".reserve 1", s), "", 3, api.ErrSection)
		wantError(t, lines(s), "", 1, api.ErrSection)
		assembled(t, lines(".data", ".reserve 1", ".text", s), "")
		assembled(t, lines(".data", ".reserve 0", s), "")
	}
}

// P2.2: symbols stand in the order in which lines name them, whether labels, directives or sums do.
func TestOrderOfSymbols(t *testing.T) {
	o := assembled(t, lines(".weak b", ".data", ".word d, c+1", "a: .byte 1", ".abs e, 1", ".import f", "c: d: b:", ".text", ".func g", "jmp h", "g: h:", ".object j", ".size i, 0", ".local k", ".global l", "i: j: k: l:"), "")
	var names []string
	for _, s := range o.Symbols {
		names = append(names, s.Name)
	}
	if got := strings.Join(names, ""); got != "bdcaefghjikl" {
		t.Errorf("the order of symbols: %s", got)
	}
}

// P2.2: what symbols are.
func TestSymbols(t *testing.T) {
	wantObject(t, lines(
		".data", ".byte 1", "a: b: .byte 2", ".reserve 3", "c: .reserve 1", "d:",
		".text", "nop", "f:",
		".global a", ".weak b", ".local c", ".global c", ".weak c", ".local d", ".global f, g, h", ".weak f",
		".func f, g, d", ".object d, a", ".size a, 5", ".size b, 1", ".size b, 0", ".size c, 1",
		".import g", ".import h, i, j, j", ".weak h", ".weak j", ".global j", ".local k", ".import k",
		".abs l, -1", ".abs m, 4294967295", ".abs n, -0x80000000", ".abs o, 7", ".global n", ".func o",
		".object g",
	), "", api.Object{
		Sections: []api.Section{withZero(data(1, 2), 4), text(1, 0, 0, 0)},
		Symbols: []api.Symbol{
			{Name: "a", Value: 1, Size: 5, Bind: api.SbGlobal, Kind: api.SyData},
			{Name: "b", Value: 1, Bind: api.SbWeak},
			{Name: "c", Value: 5, Size: 1, Bind: api.SbWeak},
			{Name: "d", Value: 6, Kind: api.SyData},
			{Name: "f", Section: 1, Value: 4, Bind: api.SbWeak, Kind: api.SyFunc},
			{Name: "g", Section: api.SecNone, Bind: api.SbGlobal, Kind: api.SyData},
			{Name: "h", Section: api.SecNone, Bind: api.SbWeak},
			imported("i"),
			imported("j"),
			imported("k"),
			{Name: "l", Section: api.SecAbs, Value: 1<<32 - 1},
			{Name: "m", Section: api.SecAbs, Value: 1<<32 - 1},
			{Name: "n", Section: api.SecAbs, Value: 1 << 31, Bind: api.SbGlobal},
			{Name: "o", Section: api.SecAbs, Value: 7, Kind: api.SyFunc},
		},
	})
	wantObject(t, lines(".weak a", ".import a"), "", api.Object{Symbols: []api.Symbol{{Name: "a", Section: api.SecNone, Bind: api.SbWeak}}})
}

// P2.2: labels of the same names as registers, mnemonics, directives and sections.
func TestNamesThatMeanMore(t *testing.T) {
	wantObject(t, lines(".text", "r1: sp: add: .text: e: text: jmp r1", "jmp sp", "jmp add", "jmp .text", "jcc e, e", "loadi sp, [fp+sp]"), "", api.Object{
		Sections: []api.Section{text(66, 0, 0, 0, 0, 0, 0, 0, 66, 0, 0, 0, 0, 0, 0, 0, 66, 0, 0, 0, 0, 0, 0, 0, 66, 0, 0, 0, 0, 0, 0, 0, 67, 0, 0, 0, 0, 0, 0, 0, 69, 15+14*16, 0, 0, 0, 0, 0, 0)},
		Symbols:  []api.Symbol{{Name: "r1"}, {Name: "sp"}, {Name: "add"}, {Name: ".text"}, {Name: "e"}, {Name: "text"}},
		Relocs:   relocs([][5]int{{0, 4, 1, 0, 0}, {0, 12, 1, 1, 0}, {0, 20, 1, 2, 0}, {0, 28, 1, 3, 0}, {0, 36, 1, 4, 0}, {0, 44, 1, 1, 0}}),
	})
	wantObject(t, lines(".equ sp, 3", ".equ r1, 4", ".text", "addk sp, r1, sp+r1", "load8 r1, [sp+sp]"), "", sections(text(18, 31, 0, 7, 27, 241, 0, 3)))
}

// P2.2: names that cannot be defined, or used, like this.
func TestLabelErrors(t *testing.T) {
	for _, l := range [][]string{
		{".text", "x:", "x:"},
		{".text", "x: x:"},
		{".text", "x:", ".data", "x: nop"},
		{".import x", ".text", "x:"},
		{".abs x, 1", ".text", "x:"},
		{".equ x, 1", ".text", "x:"},
		{".text", "x:", ".import x"},
		{".abs x, 1", ".import x"},
		{".abs x, 1", ".abs x, 1"},
		{".text", "x:", ".abs x, 1"},
		{".import x", ".abs x, 1"},
		{".import x", ".local x"},
		{".import x", ".weak x", ".local x"},
		{".weak x", ".import x", ".local y, x"},
		{".equ x, 1", ".equ x, 1"},
		{".text", "x:", ".equ x, 1"},
		{".text", "x: .equ x, 1"},
		{".global x", ".equ x, 1"},
		{".data", ".word x", ".equ x, 1"},
		{".size x, 1", ".equ x, 1"},
		{".equ x, 1", ".global y, x"},
		{".equ x, 1", ".weak x"},
		{".equ x, 1", ".local x"},
		{".equ x, 1", ".import x"},
		{".equ x, 1", ".abs x, 1"},
		{".equ x, 1", ".func x"},
		{".equ x, 1", ".object x"},
		{".equ x, 1", ".size x, 1"},
		{".equ x, 1", ".size x, 65537"},
		{".equ x, 1", ".text", "x: nopp"},
	} {
		wantError(t, lines(l...), "", len(l), api.ErrLabel)
	}
	wantError(t, lines("x:"), "", 1, api.ErrSection)
	wantError(t, lines(".equ x, 1", "x:"), "", 2, api.ErrSection)
	wantError(t, lines("x: nopp"), "", 1, api.ErrSection)
	wantError(t, lines("x: #"), "", 1, api.ErrToken)
}

// P2.2: lines that are no statements.
func TestSyntaxErrors(t *testing.T) {
	for _, s := range []string{
		"nopp", "\"nop\"", "\".data\"", "NOP", "Nop", "add8", "1", "\"a\"", ",", ":", "+", "[", "x: :", "x:: nop", "x: 1", ": nop", "nop: 5", "1:", "x y:", ".x", ".", ".texts", ".TEXT", ".global: .", "text",
		".global", ".global 1", ".global x y", ".global x,", ".global , x", ".global \"x\"", ".global x+1", ".global -x", ".global x:",
		".weak", ".local 1", ".import", ".import x, 1", ".func", ".func [x]", ".object", ".object ;x", ".object x x",
		".abs", ".abs x", ".abs x, y", ".abs x, 1, 2", ".abs 1, x", ".abs x 1", ".abs x, \"a\"", ".abs \"x\", 1", ".abs x, x",
		".size", ".size x", ".size x, y", ".size x, 1, 2", ".size 1, 1", ".size x, \"a\"",
		".equ", ".equ x", ".equ x, y", ".equ x, x", ".equ x, 1, 2", ".equ 1, 1", ".equ x, \"a\"", ".equ x, -y",
		".file", ".file f", ".file 1", ".file \"f\", \"g\"", ".file \"f\" \"g\"",
		".loc", ".loc x", ".loc 1, 2", ".loc \"f\"", ".loc 0 0",
	} {
		wantError(t, lines(".data", ".file \"g\"", s), "", 3, api.ErrSyntax)
	}
}

// P2.2: within a line tokens come ahead of labels, labels ahead of the statement, its form ahead of its operands, these from left to right, and bytes last.
func TestOrderOfErrors(t *testing.T) {
	for _, c := range []struct {
		line string
		err  api.Errno
	}{
		{"x: nopp #", api.ErrToken},
		{"x: nopp", api.ErrSection},
		{"nopp", api.ErrSyntax},
		{".byte 256, \"a\"", api.ErrSyntax},
		{".byte 256", api.ErrValue},
		{".byte 1", api.ErrSection},
		{".global k, 1", api.ErrSyntax},
		{".size k, 65537", api.ErrLabel},
		{".size k, \"a\"", api.ErrSyntax},
		{".size y, 65537", api.ErrValue},
		{".size y, -1", api.ErrValue},
		{".equ k, \"a\"", api.ErrSyntax},
		{".zero 65537", api.ErrValue},
		{".reserve -1", api.ErrValue},
		{".align 3", api.ErrValue},
		{".align y", api.ErrSyntax},
		{".loc 1048577", api.ErrValue},
		{".loc 1048576", api.ErrSection},
		{".loc 0", api.ErrSection},
		{".file \"a b\", 1", api.ErrSyntax},
		{".file \"a b\"", api.ErrValue},
		{"push r16", api.ErrOperand},
		{"push", api.ErrOperand},
		{"push k", api.ErrOperand},
		{"nop", api.ErrSection},
		{"jmp y", api.ErrSection},
		{".section q, rw, x", api.ErrSyntax},
		{".section q, wr", api.ErrSyntax},
		{".section q", api.ErrSection},
	} {
		wantError(t, lines(".equ k, 1", ".file \"f\"", c.line), "", 3, c.err)
	}
}

// P2.2: what comes up after the last line, symbol by symbol.
func TestErrorsAtTheEnd(t *testing.T) {
	for _, c := range []struct {
		line int
		err  api.Errno
		l    []string
	}{
		{2, api.ErrName, []string{".data", ".word x", ".word x", ".global x"}},
		{1, api.ErrName, []string{".global x", ".weak x", ".data"}},
		{1, api.ErrName, []string{".local x"}},
		{1, api.ErrName, []string{".func x"}},
		{1, api.ErrName, []string{".object x"}},
		{2, api.ErrName, []string{"", ".size x, 1", ".size x, 2"}},
		{2, api.ErrName, []string{".text", "jmp x"}},
		{2, api.ErrName, []string{".text", "jmp y", "jmp x", "x:", ".func z"}},
		{3, api.ErrValue, []string{".data", "x: .byte 1", ".size x, 2"}},
		{4, api.ErrValue, []string{".data", ".size x, 1", "x: .byte 1", ".size x, 2", ""}},
		{3, api.ErrValue, []string{".data", ".byte 1", ".size x, 2", "x: .reserve 1"}},
		{3, api.ErrValue, []string{".data", ".byte 1, 1", ".size x, 1", "x:"}},
		{1, api.ErrValue, []string{".size x, 1", ".import x"}},
		{2, api.ErrValue, []string{".abs x, 1", ".size x, 1"}},
		{3, api.ErrLabel, []string{".data", ".func x", ".func x", "x: .byte 1"}},
		{5, api.ErrLabel, []string{".data", ".func x", ".object x", "x: .byte 1", ".func x", "nop"}},
		{4, api.ErrLabel, []string{".section d, rw", "x:", ".global x", ".func x", ".section t, x", "nop"}},
		{5, api.ErrValue, []string{".data", "x:", "y:", ".func x", ".size x, 1", ".size y, 1"}},
		{6, api.ErrValue, []string{".data", "x:", "y:", ".func y", ".global z", ".size x, 1"}},
		{5, api.ErrLabel, []string{".global x", ".data", "x:", ".local y", ".func x", ".local z"}},
		{2, api.ErrName, []string{"", ".global x", ".data", "y: .size y, 1"}},
	} {
		wantError(t, lines(c.l...), "", c.line, c.err)
	}
	for _, l := range [][]string{
		{".data", "x: .byte 1", ".size x, 2", ".reserve 1"},
		{".size x, 65536", ".data", "x: .reserve 65536"},
		{".data", "x:", ".size x, 1", ".size x, 0"},
		{".data", ".func x", "x: .byte 1", ".object x"},
		{".section t, wx", ".func x", "x:"},
		{".func x", ".import x", ".abs y, 1", ".func y"},
		{".import x", ".size x, 0"},
	} {
		assembled(t, lines(l...), "")
	}
}

// P2.2: files, and entries that lines have by .loc.
func TestLoc(t *testing.T) {
	wantObject(t, lines(
		".file \"b.s\"", ".file \"a\"", ".file \"b.s\"",
		".data", ".loc 7", ".byte 1", ".loc 1048576", ".loc 3", ".byte 2", ".loc 0", ".byte 3",
		".text", ".loc 5", ".data", ".file \"a\"", ".loc 9", ".byte 4", ".loc 9",
		".text", ".loc 6", "nop", ".loc 8",
		".section z, rw", ".reserve 2", ".loc 1", ".reserve 1", ".loc 2",
		".section e, rw", ".loc 4",
	), "unused", api.Object{
		Sections: []api.Section{data(1, 2, 3, 4), text(1, 0, 0, 0), withZero(section("z", 3), 3), section("e", 3)},
		Files:    []string{"b.s", "a"},
		Lines:    entries([][4]int{{0, 0, 0, 7}, {0, 1, 0, 3}, {0, 2, 0, 0}, {0, 3, 1, 9}, {1, 0, 1, 6}, {2, 2, 1, 1}}),
	})
	wantObject(t, lines(".data", ".loc 0", ".byte 1"), "", api.Object{Sections: []api.Section{data(1)}, Lines: []api.Line{{}}})
	long := strings.Repeat("~", 99) + "!"
	wantObject(t, lines(".file \""+long+"\""), "", api.Object{Files: []string{long}})
	wantObject(t, lines(`.file "\"\\'"`), "", api.Object{Files: []string{`"\'`}})
	for _, s := range []string{`""`, `"a b"`, `" "`, `"a\n"`, `"\x7f"`, `"\x80"`, `"\0"`, `"~\t"`, `"` + long + `a"`} {
		wantError(t, lines(".file "+s), "", 1, api.ErrValue)
	}
	wantError(t, lines(".data", ".loc 1"), "", 2, api.ErrSyntax)
	wantError(t, lines(".data", ".loc 1"), "f", 2, api.ErrSyntax)
	for _, s := range []string{"-1", "1048577", "4294967295"} {
		wantError(t, lines(".data", ".file \"f\"", ".loc "+s), "", 3, api.ErrValue)
	}
}

// P2.2: entries that lines have without .loc.
func TestLinesOfAFile(t *testing.T) {
	src := lines(
		"", ".file \"g\"", ".data ; .loc 1", ".byte 1", ".half 1, 2", "x: .word x", ".diff x", ".page x", ".ascii \"a\"", ".ascii \"\"",
		".zero 1", ".align 4", "x.loc: .equ k, 1", ".text", "nop", "y: set r1, .loc", ".data", ".byte 2", ".reserve 2", ".loc:",
	)
	want := api.Object{
		Sections: []api.Section{
			aligned(withZero(data(1, 1, 0, 2, 0, 0, 0, 0, 0, 0, 0, 0, 0, 0, 0, 0, 0, 97, 0, 0, 2), 2), 4),
			text(1, 0, 0, 0, 64, 1, 0, 0, 0, 0, 0, 0),
		},
		Symbols: []api.Symbol{{Name: "x", Value: 5}, {Name: "x.loc", Value: 20}, {Name: "y", Section: 1, Value: 4}, {Name: ".loc", Value: 23}},
		Relocs:  relocs([][5]int{{0, 5, 1, 0, 0}, {0, 9, 4, 0, 0}, {0, 13, 5, 0, 0}, {1, 8, 1, 3, 0}}),
		Files:   []string{"g"},
	}
	wantObject(t, src, "", want)
	want.Files = []string{"g", "f"}
	want.Lines = entries([][4]int{{0, 0, 1, 4}, {0, 1, 1, 5}, {0, 5, 1, 6}, {0, 9, 1, 7}, {0, 13, 1, 8}, {0, 17, 1, 9}, {0, 20, 1, 18}, {1, 0, 1, 15}, {1, 4, 1, 16}})
	wantObject(t, src, "f", want)
	want.Files = []string{"g"}
	for i := range want.Lines {
		want.Lines[i].File = 0
	}
	wantObject(t, src, "g", want)
	with := sections(data(1, 2))
	wantObject(t, lines(".data", ".byte 1, 2", ".loc 0"), "f", with)
	with.Symbols = []api.Symbol{{Name: "x", Value: 2}, {Name: "y", Value: 2}}
	wantObject(t, lines(".data", ".byte 1, 2", "x: y: .loc 0"), "f", with)
	with.Symbols = nil
	wantObject(t, lines(".data", ".byte 1, 2", "\t.loc\t0 ; the last one"), "f", with)
	wantObject(t, lines(".data", ".zero 2", ".file \"q\""), "f", api.Object{Sections: []api.Section{data(0, 0)}, Files: []string{"q"}})
}

// P2.2: the arguments.
func TestArguments(t *testing.T) {
	long := strings.Repeat("f", 100)
	for _, file := range []string{"!", "~", "f.s", "\"", long} {
		o := assembled(t, lines(".text", "nop"), file)
		if !slices.Equal(o.Files, []string{file}) {
			t.Errorf("the files: %q, want %q", o.Files, file)
		}
	}
	for _, file := range []string{" ", "a b", "\t", "\n", "a\x00", "\x7f", "\x80", "é", long + "f"} {
		wantError(t, lines(".text", "nop"), file, 0, api.ErrArg)
		wantError(t, "\x00", file, 0, api.ErrArg)
	}
	for _, c := range []string{"\r", "\x00", "\x1f", "\x0b", "\x7f", "\x80", "\xff", "é"} {
		wantError(t, "nopp\n; a"+c, "", 0, api.ErrSource)
		wantError(t, c, "f", 0, api.ErrSource)
	}
	var all []byte
	for c := byte(32); c < 127; c++ {
		all = append(all, c)
	}
	assembled(t, ";\t"+string(all)+"\n", "f")
	assembled(t, strings.Repeat(";", 65536), "")
	wantError(t, strings.Repeat(";", 65537), "", 0, api.ErrSource)
	assembled(t, strings.Repeat("\n", 4999)+".text", "")
	wantError(t, strings.Repeat("\n", 5000)+".text", "", 0, api.ErrSource)
	wantError(t, strings.Repeat("\n", 4999)+"nop", "", 5000, api.ErrSection)
}

// P2.2: the limits of sections, symbols, files and bytes.
func TestLimits(t *testing.T) {
	l := many(16, ".section s#, r")
	assembled(t, lines(l...), "")
	assembled(t, lines(append(l, ".section s15")...), "")
	wantError(t, lines(append(l, ".section s, r")...), "", 17, api.ErrLimit)
	wantError(t, lines(append(l, ".text")...), "", 17, api.ErrLimit)
	wantError(t, lines(append(l, ".section s")...), "", 17, api.ErrSection)

	l = many(500, ".import s#")
	assembled(t, lines(append(l, ".weak s0, s499", ".data", ".word s7")...), "")
	for _, s := range []string{".import s", ".global s", ".weak s", ".local s", ".abs s, 1", ".func s", ".object s", ".size s, 1", "s:", ".word s", ".diff s4, s", "jmp s", "loadi r1, [r2+s]"} {
		wantError(t, lines(append(slices.Clone(l), ".data", s)...), "", 502, api.ErrLimit)
	}
	assembled(t, lines(append(l, ".equ s, 1", ".section s, r")...), "")

	l = many(20, ".file \"f#\"")
	assembled(t, lines(append(l, ".file \"f7\"")...), "")
	wantError(t, lines(append(l, ".file \"g\"")...), "", 21, api.ErrLimit)
	assembled(t, lines(append(l, ".text")...), "g")
	assembled(t, lines(append(l, ".text", "nop")...), "f19")
	wantError(t, lines(append(l, ".text", "nop")...), "g", 22, api.ErrLimit)

	for _, s := range []string{".byte 1", ".ascii \"a\"", ".zero 1", ".reserve 1", "nop", ".align 2"} {
		wantError(t, lines(".section t, r", ".reserve 65535", ".data", ".byte 0", s), "", 5, api.ErrLimit)
		assembled(t, lines(".section t, r", ".reserve 65531", ".data", ".byte 0", s), "")
	}
	wantError(t, lines(".data", ".zero 65535", ".byte 0, 0"), "", 3, api.ErrLimit)
	wantError(t, lines(".data", ".reserve 65535", ".align 128", ".align 2", ".reserve 1"), "", 5, api.ErrLimit)
	wantError(t, lines(".text", ".zero 65529", "jmp 0"), "", 3, api.ErrLimit)
	assembled(t, lines(".text", ".zero 65528", "jmp 0"), "")
}

// P2.2: the limits of relocations and of the line table.
func TestLimitsOfLists(t *testing.T) {
	full := ".import x\n.data\n" + strings.Repeat(".byte "+strings.Repeat("x,", 99)+"x\n", 20)
	o := assembled(t, full+".byte 1\n", "")
	if len(o.Relocs) != 2000 {
		t.Errorf("%d relocations", len(o.Relocs))
	}
	for _, s := range []string{".byte x", ".half x", ".word x", ".diff x", ".page x", "jmp x"} {
		wantError(t, full+"nop\n"+s, "", 24, api.ErrLimit)
	}
	full = ".text\n" + strings.Repeat("nop\n", 4000)
	o = assembled(t, full+".zero 4\n", "f")
	if len(o.Lines) != 4000 || o.Lines[3999] != (api.Line{Off: 15996, Line: 4001}) {
		t.Errorf("%d entries", len(o.Lines))
	}
	wantError(t, full+".data\n.byte 1\n", "f", 4003, api.ErrLimit)
	assembled(t, full+".byte 1\n", "")
	assembled(t, full+".byte 1\n.loc 0\n", "f")
}

// R2: calls change nothing that they were given, and keep nothing.
func TestAssembleKeepsNothing(t *testing.T) {
	o := assembled(t, loopSource, "f")
	p := assembled(t, loopSource, "f")
	clear(o.Sections[0].B)
	clear(o.Symbols)
	clear(o.Relocs)
	clear(o.Files)
	clear(o.Lines)
	if again := assembled(t, loopSource, "f"); !same(again, p) || !bytes.Equal(p.Sections[0].B, loopBytes()) {
		t.Errorf("an object has changed to %v", p)
	}
	before := assembled(t, loopSource, "f")
	asm.Source(p)
	if !same(before, p) {
		t.Errorf("Source has changed its argument to %v", p)
	}
}
