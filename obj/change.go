package obj

import (
	"bytes"
	"cmp"
	"slices"

	"candling/api"
)

// Strip returns the object without its line table and without symbols that nothing needs.
func Strip(o api.Object) (api.Object, api.Errno) {
	if Check(o) != api.OK {
		return api.Object{}, api.ErrObject
	}
	isNamed := map[int]bool{}
	for _, r := range o.Relocs {
		isNamed[r.Symbol] = true
	}
	var symbols []api.Symbol
	for i, s := range o.Symbols {
		if s.Bind != api.SbLocal || isNamed[i] {
			symbols = append(symbols, s)
		}
	}
	indices := indicesOf(symbols, symbolName)
	relocs := changed(o.Relocs, func(r *api.Reloc) { r.Symbol = indices[o.Symbols[r.Symbol].Name] })
	return api.Object{Sections: copySections(o.Sections), Symbols: symbols, Relocs: relocs}, api.OK
}

// changed returns a list with each element changed.
func changed[T any](l []T, change func(*T)) []T {
	c := slices.Clone(l)
	for i := range c {
		change(&c[i])
	}
	return c
}

// copySections returns sections whose bytes are new memory.
func copySections(l []api.Section) []api.Section {
	return changed(l, func(s *api.Section) { s.B = bytes.Clone(s.B) })
}

// Sort returns the object with its sections, symbols and files in the order of their names.
func Sort(o api.Object) (api.Object, api.Errno) {
	if Check(o) != api.OK {
		return api.Object{}, api.ErrObject
	}
	sections, sectionIndices := sortedByName(copySections(o.Sections), sectionName)
	symbols, symbolIndices := sortedByName(o.Symbols, symbolName)
	files, fileIndices := sortedByName(o.Files, fileName)
	moved := func(section int) int { return sectionIndices[o.Sections[section].Name] }
	symbols = changed(symbols, func(s *api.Symbol) {
		if s.Section >= 0 {
			s.Section = moved(s.Section)
		}
	})
	relocs := changed(o.Relocs, func(r *api.Reloc) {
		r.Section = moved(r.Section)
		r.Symbol = symbolIndices[o.Symbols[r.Symbol].Name]
	})
	lines := changed(o.Lines, func(l *api.Line) {
		l.Section = moved(l.Section)
		if l.Line != 0 {
			l.File = fileIndices[o.Files[l.File]]
		}
	})
	sortByPlace(relocs, fieldOf)
	sortByPlace(lines, startOf)
	return api.Object{Sections: sections, Symbols: symbols, Relocs: relocs, Files: files, Lines: lines}, api.OK
}

// sortedByName returns a list in the order of the names, and the indices that these have in it.
func sortedByName[T any](l []T, nameOf func(T) string) ([]T, map[string]int) {
	c := slices.Clone(l)
	slices.SortFunc(c, func(a, b T) int { return cmp.Compare(nameOf(a), nameOf(b)) })
	return c, indicesOf(c, nameOf)
}

// sortByPlace brings a list into the order of its elements' spans.
func sortByPlace[T any](l []T, spanOf func(T) span) {
	slices.SortFunc(l, func(a, b T) int {
		x, y := spanOf(a), spanOf(b)
		return cmp.Or(cmp.Compare(x.section, y.section), cmp.Compare(x.off, y.off))
	})
}
