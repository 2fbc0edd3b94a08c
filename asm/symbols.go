package asm

import "candling/api"

// symbol returns the index of the symbol with a name; it is a new one where it is named first.
func (a *assembler) symbol(name string) int {
	if i, is := a.indices[name]; is {
		return i
	}
	i := len(a.Symbols)
	must(i < api.MaxSymbols, api.ErrLimit)
	a.indices[name] = i
	a.Symbols = append(a.Symbols, api.Symbol{Name: name, Section: api.SecNone})
	a.histories = append(a.histories, history{first: a.line})
	return i
}

// declare is symbol where a label or a directive makes a name a symbol, which a constant cannot be.
func (a *assembler) declare(name string) int {
	_, is := a.constants[name]
	must(!is, api.ErrLabel)
	return a.symbol(name)
}

func (a *assembler) isDefined(i int) bool { return a.Symbols[i].Section != api.SecNone }

func (a *assembler) mustBeNew(i int) {
	must(!a.isDefined(i) && !a.histories[i].imported, api.ErrLabel)
}

func (a *assembler) label(name string) {
	off := lengthOf(*a.section())
	i := a.declare(name)
	a.mustBeNew(i)
	a.define(i, a.current, off)
}

func (a *assembler) define(i, section, value int) {
	a.Symbols[i].Section = section
	a.Symbols[i].Value = uint32(value)
}

func (a *assembler) importSymbol(i int) {
	must(!a.isDefined(i), api.ErrLabel)
	a.histories[i].imported = true
	if a.Symbols[i].Bind == api.SbLocal {
		a.Symbols[i].Bind = api.SbGlobal
	}
}

func (a *assembler) bind(i, binding int) {
	must(binding != api.SbLocal || !a.histories[i].imported, api.ErrLabel)
	a.Symbols[i].Bind = binding
}

func (a *assembler) markFunc(i int) {
	a.Symbols[i].Kind = api.SyFunc
	a.histories[i].lastFunc = a.line
}

func (a *assembler) markData(i int) { a.Symbols[i].Kind = api.SyData }
