package asm

import (
	"strconv"

	"candling/api"
	"candling/isa"
)

// insn assembles an instruction: its operands are written as layer 1 writes them, and the text that they make is read by layer 1.
func (a *assembler) insn(op int, l []operand) {
	kinds, _ := isa.Fields(op)
	must(len(l) == len(kinds), api.ErrOperand)
	text, _ := isa.Name(op)
	var target sum
	for i, kind := range kinds {
		s := ""
		s, target = a.operandText(kind, l[i])
		text += separator(i) + s
	}
	x, err := isa.Parse(text)
	must(err == api.OK, api.ErrOperand)
	b, _ := isa.Encode(x)
	if target.hasSymbol() {
		a.emit(b, []api.Reloc{a.field(immediate, api.RlWord, target)})
	} else {
		a.emit(b, nil)
	}
}

// immediate is the index of the first byte of I among the bytes of an instruction.
const immediate = 4

// separator returns what stands in front of the operand with an index.
func separator(i int) string {
	if i == 0 {
		return " "
	}
	return ", "
}

// operandText returns the text of an operand, as layer 1 writes it, and the sum that I is. The operand with I is the last one of its instruction.
func (a *assembler) operandText(kind int, o operand) (string, sum) {
	switch kind {
	case api.FdRA, api.FdRB, api.FdRC:
		return registerText(o), sum{}
	case api.FdVA, api.FdVB, api.FdVC, api.FdCond, api.FdExt:
		return nameText(o), sum{}
	case api.FdI:
		s, is := a.sumOf(o)
		must(is, api.ErrOperand)
		return wordText(s), s
	case api.FdMemK:
		register, s := a.memory(o)
		return "[" + register + offsetText(plainNumber(s)) + "]", sum{}
	case api.FdMemI:
		register, s := a.memory(o)
		return "[" + register + "+" + wordText(s) + "]", s
	}
	s, is := a.sumOf(o)
	must(is, api.ErrOperand)
	return strconv.Itoa(plainNumber(s)), sum{}
}

func nameText(o operand) string {
	must(len(o) == 1 && o[0].Kind == api.TkName, api.ErrOperand)
	return o[0].S
}

func registerText(o operand) string {
	switch name := nameText(o); name {
	case "sp":
		return "r" + strconv.Itoa(api.SP)
	case "fp":
		return "r" + strconv.Itoa(api.FP)
	default:
		return name
	}
}

func plainNumber(s sum) int {
	must(!s.hasSymbol(), api.ErrOperand)
	return s.number
}

// wordText returns the text of I: 0 where a relocation will add a symbol.
func wordText(s sum) string {
	must(s.fits(), api.ErrOperand)
	if s.hasSymbol() {
		return noWord
	}
	return hexText(uint32(s.number))
}

// noWord is the text of I if it is 0.
const noWord = "0x0"

func hexText(n uint32) string { return "0x" + strconv.FormatUint(uint64(n), 16) }

// offsetText returns the sign and the absolute value of a number; nothing if it is 0.
func offsetText(n int) string {
	switch {
	case n > 0:
		return "+" + strconv.Itoa(n)
	case n < 0:
		return strconv.Itoa(n)
	}
	return ""
}

// memory returns the text of the register in brackets, and the sum of the terms behind it.
func (a *assembler) memory(o operand) (string, sum) {
	last := len(o) - 1
	must(last >= 2 && isSign(o[0], "[") && isSign(o[last], "]"), api.ErrOperand)
	s, is := a.termsOf(sum{}, o[2:last])
	must(is, api.ErrOperand)
	return registerText(o[1:2]), s
}
