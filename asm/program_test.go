package asm_test

import (
	"fmt"
	"math/rand/v2"
	"slices"
	"strconv"
	"strings"

	"candling/api"
	"candling/asm"
	"candling/isa"
)

// program is a source text as lists of words, one a line: @3 is the name of symbol 3, #5 the number 5, all others are as they are.
type program struct {
	r       *rand.Rand
	lines   [][]string
	symbols int
	open    []int // symbols that are neither defined nor imported
}

// style is what a program may have.
type style struct{ align, reserve, loc bool }

// newProgram returns a program without an error.
func newProgram(r *rand.Rand, s style) *program {
	p := &program{r: r}
	for range 3 + r.IntN(4) {
		p.symbol()
	}
	p.section(s)
	for range 10 + r.IntN(60) {
		p.statement(s)
	}
	for _, i := range p.open {
		p.add(".import", at(i))
	}
	p.open = nil
	return p
}

func at(i int) string { return "@" + strconv.Itoa(i) }

// words returns what its arguments are, numbers and texts.
func words(l ...any) []string {
	var out []string
	for _, x := range l {
		if n, is := x.(int); is && n < 0 {
			out = append(out, "-", "#"+strconv.Itoa(-n))
		} else if is {
			out = append(out, "#"+strconv.Itoa(n))
		} else {
			out = append(out, fmt.Sprint(x))
		}
	}
	return out
}

func (p *program) add(l ...any) { p.lines = append(p.lines, words(l...)) }

// symbol returns a new symbol that is open.
func (p *program) symbol() int {
	p.symbols++
	p.open = append(p.open, p.symbols-1)
	return p.symbols - 1
}

// take returns an open symbol that is open no longer.
func (p *program) take() int {
	if len(p.open) == 0 {
		p.symbol()
	}
	k := p.r.IntN(len(p.open))
	i := p.open[k]
	p.open = slices.Delete(p.open, k, k+1)
	return i
}

func (p *program) any() int {
	if p.r.IntN(6) == 0 {
		return p.symbol()
	}
	return p.r.IntN(p.symbols)
}

func (p *program) section(s style) {
	p.add(p.sectionWords()...)
	if s.reserve && p.r.IntN(4) == 0 {
		p.add(".section", "bss", ",", "rw")
		p.add(at(p.take()), ":", ".reserve", p.r.IntN(50))
		p.add(p.sectionWords()...)
	}
}

func (p *program) sectionWords() []any {
	return pick(p.r, []any{".section", "text", ",", "rx"}, []any{".section", "data", ",", "rw"}, []any{".section", "code", ",", "rwx"}, []any{".section", "lone", ",", "w"})
}

func (p *program) statement(s style) {
	r := p.r
	switch r.IntN(16) {
	case 0:
		p.section(s)
	case 1:
		if s.align {
			p.add(".align", 1<<r.IntN(9))
		}
	case 2:
		p.add(at(p.take()), ":")
	case 3:
		i := p.take()
		p.add(at(i), ":", ".byte", r.IntN(256), ",", -r.IntN(129), ",", r.IntN(256))
		p.add(".size", at(i), ",", r.IntN(4))
	case 4:
		i := p.take()
		p.add(".section", "text", ",", "rx")
		p.add(at(i), ":", "nop")
		p.add(".func", at(i))
	case 5:
		p.add(pick(r, ".weak", ".global"), at(p.any()), ",", at(p.any()))
	case 6:
		p.add(".object", at(p.any()))
	case 7:
		p.add(".abs", at(p.take()), ",", int(r.Uint32()))
	case 8:
		p.add(".half", r.IntN(65536), ",", at(p.any()), "+", r.IntN(1000), ",", -r.IntN(32769))
	case 9:
		p.add(pick(r, ".byte", ".word", ".diff", ".page"), at(p.any()), "-", r.IntN(1000), ",", 1+r.IntN(10), "+", at(p.any()))
	case 10:
		p.add(".ascii", asm.Quote([]byte(fmt.Sprint("a; \"", r.Uint32()))), ",", asm.Quote([]byte{byte(r.Uint32())}))
	case 11:
		p.add(".zero", r.IntN(9))
	case 12:
		if s.loc {
			p.add(".file", asm.Quote([]byte{'f', byte('0' + r.IntN(8))}))
			p.add(".loc", r.IntN(3)*r.IntN(1000))
		}
	default:
		p.insn()
	}
}

// insn adds an instruction, with a symbol now and then.
func (p *program) insn() {
	x := randomInsn(p.r, pick(p.r, allOps()...))
	mnemonic, _ := isa.Name(x.Op)
	kinds, _ := isa.Fields(x.Op)
	l := []any{mnemonic}
	for i, kind := range kinds {
		if i > 0 {
			l = append(l, ",")
		}
		l = append(l, p.operand(kind, i, x)...)
	}
	p.add(l...)
}

func (p *program) operand(kind, i int, x api.Insn) []any {
	switch kind {
	case api.FdI:
		if p.r.IntN(3) == 0 {
			return []any{at(p.any()), "+", p.r.IntN(100)}
		}
		return []any{int(x.I)}
	case api.FdMemI:
		if p.r.IntN(3) == 0 {
			return []any{"[", "r" + strconv.Itoa(x.B), "+", at(p.any()), "-", p.r.IntN(100), "]"}
		}
		return []any{"[", "r" + strconv.Itoa(x.B), "+", int(x.I), "]"}
	case api.FdMemK:
		l := words(x.K)
		if x.K >= 0 {
			l = words("+", x.K)
		}
		return []any{"[", "r" + strconv.Itoa(x.B), l[0], l[1], "]"}
	case api.FdK:
		return []any{x.K}
	case api.FdWord, api.FdScale:
		return []any{x.D}
	}
	s, _ := isa.Text(x)
	_, operands, _ := strings.Cut(s, " ")
	return []any{strings.Split(operands, ", ")[i]}
}

// plainName is the name of a symbol.
func plainName(i int) string { return "s" + strconv.Itoa(i) }

// plainNumber is a number in decimal notation.
func plainNumber(n int, _ string) string { return strconv.Itoa(n) }

// words returns the words of a line with the names and the numbers that functions return; the latter is told the sign in front of the number.
func (p *program) words(line int, name func(int) string, number func(n int, sign string) string) []string {
	var out []string
	sign := ""
	for _, w := range p.lines[line] {
		switch w[0] {
		case '@':
			i, _ := strconv.Atoi(w[1:])
			out = append(out, name(i))
		case '#':
			n, _ := strconv.Atoi(w[1:])
			out = append(out, number(n, sign))
		default:
			out = append(out, w)
		}
		sign = w
	}
	return out
}

// source returns the source text of a program.
func (p *program) source(name func(int) string, number func(int, string) string) string {
	var out strings.Builder
	for i := range p.lines {
		out.WriteString(strings.Join(p.words(i, name, number), " ") + "\n")
	}
	return out.String()
}

func (p *program) plain() string { return p.source(plainName, plainNumber) }

// spellings returns ways to write a number as one token.
func spellings(r *rand.Rand, n int) []string {
	l := []string{strconv.Itoa(n), fmt.Sprintf("0x%x", n), fmt.Sprintf("0x%X", n), fmt.Sprintf("0x%08x", n)}
	if n < 256 {
		l = append(l, fmt.Sprintf(`'\x%02x'`, n), fmt.Sprintf(`'\x%02X'`, n))
	}
	switch {
	case n == '\'' || n == '\\':
		l = append(l, `'\`+string(rune(n))+"'")
	case n >= 32 && n <= 126:
		l = append(l, "'"+string(rune(n))+"'")
	case n == '\n':
		l = append(l, `'\n'`)
	case n == '\t':
		l = append(l, `'\t'`)
	case n == 0:
		l = append(l, `'\0'`)
	}
	r.Shuffle(len(l), func(i, j int) { l[i], l[j] = l[j], l[i] })
	return l
}
