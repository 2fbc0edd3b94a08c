package asm

import (
	"math"

	"candling/api"
)

// directive is how many operands a directive has, at least and at most, and what it does with them.
type directive struct {
	least, most int
	do          func(*assembler, []operand)
}

// anyNumber is more operands than a line has.
const anyNumber = api.MaxSource + 1

// directives returns them by their names.
func directives() map[string]directive {
	return map[string]directive{
		".section": {1, 2, (*assembler).sectionDirective},
		".text":    entering("text", api.RtRead|api.RtExec),
		".data":    entering("data", api.RtRead|api.RtWrite),
		".align":   {1, 1, (*assembler).alignDirective},
		".byte":    numbering(api.RlByte, 1),
		".half":    numbering(api.RlHalf, 2),
		".word":    numbering(api.RlWord, 4),
		".diff":    pointing(api.RlDiff),
		".page":    pointing(api.RlPage),
		".ascii":   {1, anyNumber, (*assembler).asciiDirective},
		".zero":    {1, 1, (*assembler).zeroDirective},
		".reserve": {1, 1, (*assembler).reserveDirective},
		".global":  naming(func(a *assembler, i int) { a.bind(i, api.SbGlobal) }),
		".weak":    naming(func(a *assembler, i int) { a.bind(i, api.SbWeak) }),
		".local":   naming(func(a *assembler, i int) { a.bind(i, api.SbLocal) }),
		".import":  naming((*assembler).importSymbol),
		".abs":     {2, 2, (*assembler).absDirective},
		".func":    naming((*assembler).markFunc),
		".object":  naming((*assembler).markData),
		".size":    {2, 2, (*assembler).sizeDirective},
		".equ":     {2, 2, (*assembler).equDirective},
		".file":    {1, 1, (*assembler).fileDirective},
		".loc":     {1, 1, (*assembler).locDirective},
	}
}

// direct lets a directive do its work, which has to have as many operands as it takes.
func (a *assembler) direct(d directive, l []operand) {
	must(len(l) >= d.least && len(l) <= d.most, api.ErrSyntax)
	d.do(a, l)
}

func mustBeWithin(n, least, most int) { must(n >= least && n <= most, api.ErrValue) }

// entering returns the directive of a section with a name of its own.
func entering(name string, rights int) directive {
	return directive{0, 0, func(a *assembler, _ []operand) { a.enter(name, rights) }}
}

// naming returns a directive of names of symbols, which it changes one after the other.
func naming(change func(a *assembler, i int)) directive {
	return directive{1, anyNumber, func(a *assembler, l []operand) {
		for _, name := range readList(l, readName) {
			change(a, a.declare(name))
		}
	}}
}

// numbering returns a directive of numbers and addresses of some bytes each.
func numbering(kind, size int) directive {
	return directive{1, anyNumber, func(a *assembler, l []operand) {
		a.data(readList(l, a.readSum), kind, size)
	}}
}

// pointing returns a directive of addresses alone.
func pointing(kind int) directive {
	return directive{1, anyNumber, func(a *assembler, l []operand) {
		sums := readList(l, a.readSum)
		for _, s := range sums {
			must(s.hasSymbol(), api.ErrSyntax)
		}
		a.data(sums, kind, 4)
	}}
}

// data appends sums of some bytes each.
func (a *assembler) data(sums []sum, kind, size int) {
	var b []byte
	var fields []api.Reloc
	for _, s := range sums {
		must(s.fits(), api.ErrValue)
		if s.hasSymbol() {
			fields = append(fields, a.field(len(b), kind, s))
			b = appendNumber(b, 0, size)
		} else {
			mustBeWithin(s.number, -1<<(8*size-1), 1<<(8*size)-1)
			b = appendNumber(b, s.number, size)
		}
	}
	a.emit(b, fields)
}

// appendNumber appends the lowest bytes of a number, the lowest one first.
func appendNumber(b []byte, n, size int) []byte {
	for i := range size {
		b = append(b, byte(n>>(8*i)))
	}
	return b
}

func (a *assembler) sectionDirective(l []operand) {
	names := readList(l, readName)
	rights := 0
	if len(names) == 2 {
		rights = rightsOf(names[1])
		must(rights != 0, api.ErrSyntax)
	}
	a.enter(names[0], rights)
}

func (a *assembler) alignDirective(l []operand) {
	n := a.readPlain(l[0])
	must(isAlignment(n), api.ErrValue)
	a.align(n)
}

func (a *assembler) asciiDirective(l []operand) {
	var b []byte
	for _, s := range readList(l, readString) {
		b = append(b, s...)
	}
	a.emit(b, nil)
}

func (a *assembler) zeroDirective(l []operand) { a.fill(make([]byte, a.readCount(l))) }

func (a *assembler) reserveDirective(l []operand) { a.reserve(a.readCount(l)) }

// readCount reads the only operand of a directive, which is a number of bytes.
func (a *assembler) readCount(l []operand) int {
	n := a.readPlain(l[0])
	mustBeWithin(n, 0, api.MaxObjLen)
	return n
}

// readValued reads a name and a number.
func (a *assembler) readValued(l []operand) (string, int) {
	name := readName(l[0])
	n := a.readPlain(l[1])
	return name, n
}

func (a *assembler) absDirective(l []operand) {
	name, n := a.readValued(l)
	i := a.declare(name)
	a.mustBeNew(i)
	mustBeWithin(n, math.MinInt32, math.MaxUint32)
	a.define(i, api.SecAbs, n)
}

func (a *assembler) sizeDirective(l []operand) {
	name, n := a.readValued(l)
	i := a.declare(name)
	mustBeWithin(n, 0, api.MaxObjLen)
	a.Symbols[i].Size = n
	a.histories[i].lastSize = a.line
}

func (a *assembler) equDirective(l []operand) {
	name, n := a.readValued(l)
	_, isConstant := a.constants[name]
	_, isSymbol := a.indices[name]
	must(!isConstant && !isSymbol, api.ErrLabel)
	mustBeWithin(n, math.MinInt32, math.MaxUint32)
	a.constants[name] = n
}

func (a *assembler) fileDirective(l []operand) {
	name := readString(l[0])
	must(isFileName(name), api.ErrValue)
	a.file = a.fileIndex(name)
}

func (a *assembler) locDirective(l []operand) {
	n := a.readPlain(l[0])
	mustBeWithin(n, 0, api.MaxLine)
	must(n == 0 || a.file != none, api.ErrSyntax)
	off := lengthOf(*a.section())
	if n == 0 {
		a.enterLine(off, 0, 0)
	} else {
		a.enterLine(off, a.file, n)
	}
}
