package asm

import (
	"math"
	"slices"

	"candling/api"
)

// isValid reports whether an object is valid, as layer 3 says.
func isValid(o api.Object) bool {
	return areSections(o.Sections) && areSymbols(o) && areRelocs(o) && areFiles(o.Files) && areLines(o)
}

// areDifferent reports whether no two elements of a list have the same key.
func areDifferent[T any](l []T, key func(T) string) bool {
	seen := map[string]bool{}
	for _, x := range l {
		seen[key(x)] = true
	}
	return len(seen) == len(l)
}

func areSections(l []api.Section) bool {
	if len(l) > api.MaxSections || !areDifferent(l, func(s api.Section) string { return s.Name }) {
		return false
	}
	size := 0
	for _, s := range l {
		if !isSection(s) {
			return false
		}
		size += lengthOf(s)
	}
	return size <= api.MaxObjLen
}

func isSection(s api.Section) bool {
	return isName(s.Name) &&
		s.Rights >= 1 && s.Rights <= 7 &&
		isAlignment(s.Align) &&
		s.Zero >= 0 && s.Zero <= api.MaxObjLen
}

// isAlignment reports whether n is a power of two that a section can be aligned to.
func isAlignment(n int) bool { return n >= 1 && n <= 256 && n&(n-1) == 0 }

func areSymbols(o api.Object) bool {
	return len(o.Symbols) <= api.MaxSymbols &&
		areDifferent(o.Symbols, func(s api.Symbol) string { return s.Name }) &&
		!slices.ContainsFunc(o.Symbols, func(s api.Symbol) bool { return !isSymbol(o, s) })
}

func isSymbol(o api.Object, s api.Symbol) bool {
	if !isName(s.Name) || s.Bind < api.SbLocal || s.Bind > api.SbWeak || s.Kind < api.SyNone || s.Kind > api.SyData {
		return false
	}
	switch s.Section {
	case api.SecNone:
		return s.Bind != api.SbLocal && s.Value == 0 && s.Size == 0
	case api.SecAbs:
		return s.Size == 0
	}
	if s.Section < 0 || s.Section >= len(o.Sections) {
		return false
	}
	section := o.Sections[s.Section]
	return s.Size >= 0 && s.Size <= lengthOf(section)-int(s.Value) &&
		(s.Kind != api.SyFunc || section.Rights&api.RtExec != 0)
}

func areRelocs(o api.Object) bool {
	if len(o.Relocs) > api.MaxRelocs {
		return false
	}
	end := place{}
	for _, r := range o.Relocs {
		if !isReloc(o, r) || r.Section < end.section || r.Section == end.section && r.Off < end.off {
			return false
		}
		end = place{r.Section, r.Off + fieldSize(r.Kind)}
	}
	return true
}

func isReloc(o api.Object, r api.Reloc) bool {
	return r.Section >= 0 && r.Section < len(o.Sections) &&
		r.Kind >= 1 && r.Kind <= api.MaxRl &&
		r.Symbol >= 0 && r.Symbol < len(o.Symbols) &&
		r.Add >= math.MinInt32 && r.Add <= math.MaxInt32 &&
		r.Off >= 0 && r.Off <= len(o.Sections[r.Section].B)-fieldSize(r.Kind)
}

// fieldSize returns how many bytes the field of a relocation has.
func fieldSize(kind int) int {
	switch kind {
	case api.RlHalf:
		return 2
	case api.RlByte:
		return 1
	}
	return 4
}

func areFiles(l []string) bool {
	return len(l) <= api.MaxFiles &&
		areDifferent(l, func(name string) string { return name }) &&
		!slices.ContainsFunc(l, func(name string) bool { return !isFileName(name) })
}

func areLines(o api.Object) bool {
	if len(o.Lines) > api.MaxLines {
		return false
	}
	next := place{}
	for _, l := range o.Lines {
		if !isLine(o, l) || l.Section < next.section || l.Section == next.section && l.Off < next.off {
			return false
		}
		next = place{l.Section, l.Off + 1}
	}
	return true
}

func isLine(o api.Object, l api.Line) bool {
	if l.Section < 0 || l.Section >= len(o.Sections) || l.Off < 0 || l.Off >= lengthOf(o.Sections[l.Section]) {
		return false
	}
	if l.Line == 0 {
		return l.File == 0
	}
	return l.Line >= 1 && l.Line <= api.MaxLine && l.File >= 0 && l.File < len(o.Files)
}

// isWritable reports whether a valid object's fields have bytes 0 alone, and none of them has a label or a line behind its first byte: no source text can say anything else.
func isWritable(o api.Object) bool {
	inner := map[place]bool{}
	for _, r := range o.Relocs {
		for off := r.Off; off < r.Off+fieldSize(r.Kind); off++ {
			if o.Sections[r.Section].B[off] != 0 {
				return false
			}
			inner[place{r.Section, off}] = off > r.Off
		}
	}
	for _, s := range o.Symbols {
		if inner[place{s.Section, int(s.Value)}] {
			return false
		}
	}
	for _, l := range o.Lines {
		if inner[place{l.Section, l.Off}] {
			return false
		}
	}
	return true
}
