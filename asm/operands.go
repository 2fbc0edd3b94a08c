package asm

import (
	"math"

	"candling/api"
)

// operand is the tokens between two commas.
type operand []api.Token

// split returns the operands that tokens are: none, or one more than there are commas.
func split(l []api.Token) []operand {
	if len(l) == 0 {
		return nil
	}
	operands := []operand{nil}
	for _, t := range l {
		last := len(operands) - 1
		if isSign(t, ",") {
			operands = append(operands, nil)
		} else {
			operands[last] = append(operands[last], t)
		}
	}
	return operands
}

func isSign(t api.Token, sign string) bool { return t.Kind == api.TkSign && t.S == sign }

// readList reads operands of a directive that are all of one kind.
func readList[T any](l []operand, read func(operand) T) []T {
	var values []T
	for _, o := range l {
		values = append(values, read(o))
	}
	return values
}

func readName(o operand) string { return readToken(o, api.TkName) }

func readString(o operand) string { return readToken(o, api.TkString) }

// readToken returns the text of the only token of an operand, which has to be of a kind.
func readToken(o operand, kind int) string {
	must(len(o) == 1 && o[0].Kind == kind, api.ErrSyntax)
	return o[0].S
}

// sum is a number to which the address of a symbol is added, if there is one.
type sum struct {
	symbol string
	number int
}

// hasSymbol reports whether there is a symbol; each one has a name of at least one byte.
func (s sum) hasSymbol() bool { return s.symbol != "" }

// fits reports whether the number is within the range of sums.
func (s sum) fits() bool {
	if s.hasSymbol() {
		return s.number >= math.MinInt32 && s.number <= math.MaxInt32
	}
	return s.number >= math.MinInt32 && s.number <= math.MaxUint32
}

// readSum reads a sum of a directive; its number may be out of the range of sums, which is looked at later than the form.
func (a *assembler) readSum(o operand) sum {
	s, is := a.sumOf(o)
	must(is, api.ErrSyntax)
	return s
}

// readPlain is readSum for a plain sum.
func (a *assembler) readPlain(o operand) int {
	s := a.readSum(o)
	must(!s.hasSymbol(), api.ErrSyntax)
	return s.number
}

// sumOf returns the sum that tokens are.
func (a *assembler) sumOf(l []api.Token) (sum, bool) {
	if len(l) == 0 {
		return sum{}, false
	}
	if isSign(l[0], "-") {
		return a.termsOf(sum{}, l)
	}
	s, is := a.add(sum{}, "+", l[0])
	if !is {
		return sum{}, false
	}
	return a.termsOf(s, l[1:])
}

// termsOf returns a sum with further terms, each of which has its sign in front.
func (a *assembler) termsOf(s sum, l []api.Token) (sum, bool) {
	for len(l) > 0 {
		if len(l) < 2 || !isSign(l[0], "+") && !isSign(l[0], "-") {
			return sum{}, false
		}
		more, is := a.add(s, l[0].S, l[1])
		if !is {
			return sum{}, false
		}
		s, l = more, l[2:]
	}
	return s, true
}

// add returns a sum with a further term.
func (a *assembler) add(s sum, sign string, term api.Token) (sum, bool) {
	n := term.N
	switch term.Kind {
	case api.TkNumber:
	case api.TkName:
		number, is := a.constants[term.S]
		if !is {
			return sum{term.S, s.number}, sign == "+" && !s.hasSymbol()
		}
		n = number
	default:
		return sum{}, false
	}
	if sign == "-" {
		n = -n
	}
	s.number += n
	return s, true
}
