package obj

import (
	"math"

	"candling/api"
)

// every reports whether a list has at most so many elements, and a condition holds for all of them.
func every[T any](l []T, most int, holds func(T) bool) bool {
	if len(l) > most {
		return false
	}
	for _, x := range l {
		if !holds(x) {
			return false
		}
	}
	return true
}

// areDifferent reports whether no two elements of a list have the same name.
func areDifferent[T any](l []T, nameOf func(T) string) bool {
	return len(indicesOf(l, nameOf)) == len(l)
}

// indicesOf returns the indices of a list's elements by their names.
func indicesOf[T any](l []T, nameOf func(T) string) map[string]int {
	indices := map[string]int{}
	for i, x := range l {
		indices[nameOf(x)] = i
	}
	return indices
}

func sectionName(s api.Section) string { return s.Name }

func symbolName(s api.Symbol) string { return s.Name }

func fileName(name string) string { return name }

// isWithin reports whether n is from least to most.
func isWithin(n, least, most int) bool { return n >= least && n <= most }

// isIndex reports whether n is the index of an element of a list.
func isIndex[T any](n int, l []T) bool { return n >= 0 && n < len(l) }

func isName(s string) bool {
	if !isWithin(len(s), 1, api.MaxName) || !isNameStart(s[0]) {
		return false
	}
	for i := range len(s) {
		if !isNamePart(s[i]) {
			return false
		}
	}
	return true
}

func isNameStart(c byte) bool {
	return c >= 'A' && c <= 'Z' || c >= 'a' && c <= 'z' || c == '_' || c == '.'
}

func isNamePart(c byte) bool { return isNameStart(c) || c >= '0' && c <= '9' || c == '$' }

// maxFileName is how many bytes the name of a file has at most.
const maxFileName = 100

func isFileName(s string) bool {
	if !isWithin(len(s), 1, maxFileName) {
		return false
	}
	for i := range len(s) {
		if !isWithin(int(s[i]), '!', '~') {
			return false
		}
	}
	return true
}

func areSections(l []api.Section) bool {
	if !every(l, api.MaxSections, isSection) || !areDifferent(l, sectionName) {
		return false
	}
	room := api.MaxObjLen
	for _, s := range l {
		room -= lengthOf(s)
	}
	return room >= 0
}

// isSection reports whether a section can be one of an object; no sum of the lengths of such sections overflows.
func isSection(s api.Section) bool {
	return isName(s.Name) &&
		isWithin(s.Rights, 1, api.RtRead+api.RtWrite+api.RtExec) &&
		isWithin(s.Align, 1, 256) && s.Align&(s.Align-1) == 0 &&
		isWithin(s.Zero, 0, api.MaxObjLen)
}

func lengthOf(s api.Section) int { return len(s.B) + s.Zero }

// hasByte reports whether off is an offset of a byte of a section, valid or not.
func hasByte(s api.Section, off int) bool { return off >= 0 && off-len(s.B) < s.Zero }

func areSymbols(o api.Object) bool {
	isOne := func(s api.Symbol) bool { return isSymbol(o, s) }
	return every(o.Symbols, api.MaxSymbols, isOne) && areDifferent(o.Symbols, symbolName)
}

func isSymbol(o api.Object, s api.Symbol) bool {
	return isName(s.Name) &&
		isWithin(s.Bind, api.SbLocal, api.SbWeak) &&
		isWithin(s.Kind, api.SyNone, api.SyData) &&
		isDefinition(o, s)
}

// isDefinition reports whether a symbol is imported or defined as it can be.
func isDefinition(o api.Object, s api.Symbol) bool {
	switch {
	case s.Section == api.SecNone:
		return s.Bind != api.SbLocal && s.Value == 0 && s.Size == 0
	case s.Section == api.SecAbs:
		return s.Size == 0
	case !isIndex(s.Section, o.Sections):
		return false
	}
	section := o.Sections[s.Section]
	isPlaced := isWithin(s.Size, 0, lengthOf(section)-int(s.Value))
	return isPlaced && (s.Kind != api.SyFunc || section.Rights&api.RtExec != 0)
}

// span is bytes of a section.
type span struct{ section, off, size int }

// isAhead reports whether the bytes of a stand ahead of those of b.
func (a span) isAhead(b span) bool {
	return a.section < b.section || a.section == b.section && a.off+a.size <= b.off
}

// areApart reports whether the spans of a list's elements follow one another, and none overlaps the next one.
func areApart[T any](l []T, spanOf func(T) span) bool {
	for i := range l {
		if i > 0 && !spanOf(l[i-1]).isAhead(spanOf(l[i])) {
			return false
		}
	}
	return true
}

func areRelocs(o api.Object) bool {
	isOne := func(r api.Reloc) bool { return isReloc(o, r) }
	return every(o.Relocs, api.MaxRelocs, isOne) && areApart(o.Relocs, fieldOf)
}

func isReloc(o api.Object, r api.Reloc) bool {
	return isIndex(r.Section, o.Sections) &&
		isIndex(r.Symbol, o.Symbols) &&
		isRelocKind(r.Kind) &&
		isAddend(r.Add) &&
		isField(o.Sections[r.Section].B, r.Off, r.Kind)
}

func isRelocKind(kind int) bool { return isWithin(kind, 1, api.MaxRl) }

func isAddend(n int) bool { return isWithin(n, math.MinInt32, math.MaxInt32) }

// isField reports whether all bytes of the field at an offset are bytes of b.
func isField(b []byte, off, kind int) bool { return isWithin(off, 0, len(b)-fieldSize(kind)) }

// fieldOf returns the field of a relocation.
func fieldOf(r api.Reloc) span { return span{r.Section, r.Off, fieldSize(r.Kind)} }

// fieldSize returns how many bytes the field of a relocation has.
func fieldSize(kind int) int {
	switch kind {
	case api.RlByte:
		return 1
	case api.RlHalf:
		return 2
	}
	return 4
}

func areFiles(l []string) bool {
	return every(l, api.MaxFiles, isFileName) && areDifferent(l, fileName)
}

func areLines(o api.Object) bool {
	return isTable(o.Lines) && every(o.Lines, api.MaxLines, func(l api.Line) bool {
		return isIndex(l.Section, o.Sections) &&
			hasByte(o.Sections[l.Section], l.Off) &&
			(l.Line == 0 || isIndex(l.File, o.Files))
	})
}

// isTable reports whether l is a line table.
func isTable(l []api.Line) bool {
	return every(l, api.MaxLines, isEntry) && areApart(l, startOf)
}

// isEntry reports whether l can be an entry of a line table.
func isEntry(l api.Line) bool { return isInRange(l) && (l.Line != 0 || l.File == 0) }

// isInRange reports whether each field of l is as in a line table.
func isInRange(l api.Line) bool {
	return isWithin(l.Section, 0, api.MaxSections-1) &&
		isWithin(l.Off, 0, api.MaxObjLen-1) &&
		isWithin(l.File, 0, api.MaxFiles-1) &&
		isWithin(l.Line, 0, api.MaxLine)
}

// startOf returns the byte at which an entry of a line table stands.
func startOf(l api.Line) span { return span{l.Section, l.Off, 1} }
