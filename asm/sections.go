package asm

import (
	"slices"

	"candling/api"
)

// lengthOf returns how many bytes a section has, with the zeros behind B.
func lengthOf(s api.Section) int { return len(s.B) + s.Zero }

// rightsText returns the name of rights: letters in the order of their bits.
func rightsText(rights int) string {
	const letters = "rwx"
	text := ""
	for i := range len(letters) {
		if rights>>i&1 == 1 {
			text += letters[i : i+1]
		}
	}
	return text
}

// rightsOf returns the rights with a name, or 0 if there are none.
func rightsOf(name string) int {
	for rights := range api.RtRead + api.RtWrite + api.RtExec + 1 {
		if rightsText(rights) == name {
			return rights
		}
	}
	return 0
}

// enter makes the section with a name the current one. Rights are 0 if none are given.
func (a *assembler) enter(name string, rights int) {
	i := slices.IndexFunc(a.Sections, func(s api.Section) bool { return s.Name == name })
	if i < 0 {
		must(rights != 0, api.ErrSection)
		i = len(a.Sections)
		must(i < api.MaxSections, api.ErrLimit)
		a.Sections = append(a.Sections, api.Section{Name: name, Rights: rights, Align: 1})
	}
	must(rights == 0 || rights == a.Sections[i].Rights, api.ErrSection)
	a.current = i
}

// section returns the current section.
func (a *assembler) section() *api.Section {
	must(a.current != none, api.ErrSection)
	return &a.Sections[a.current]
}

// makeRoom ends the work if n bytes more are too many.
func (a *assembler) makeRoom(n int) {
	for _, s := range a.Sections {
		n += lengthOf(s)
	}
	must(n <= api.MaxObjLen, api.ErrLimit)
}

// reserve lets the zeros behind the current section grow.
func (a *assembler) reserve(n int) {
	s := a.section()
	a.makeRoom(n)
	s.Zero += n
}

// fill appends bytes to the current section, and returns the offset of the first one.
func (a *assembler) fill(b []byte) int {
	s := a.section()
	must(s.Zero == 0, api.ErrSection)
	a.makeRoom(len(b))
	off := len(s.B)
	s.B = append(s.B, b...)
	return off
}

// align brings the current section's offset to a multiple of n.
func (a *assembler) align(n int) {
	s := a.section()
	size := (n - lengthOf(*s)%n) % n
	if s.Zero == 0 {
		a.fill(make([]byte, size))
	} else {
		a.reserve(size)
	}
	s.Align = max(s.Align, n)
}

// field returns the relocation of a field among bytes that are to be appended, at an offset from the first of them.
func (a *assembler) field(off, kind int, s sum) api.Reloc {
	return api.Reloc{Off: off, Kind: kind, Symbol: a.symbol(s.symbol), Add: s.number}
}

// emit appends what a line with an instruction or with data makes: bytes, relocations of their fields, and an entry of the line table if lines make them.
func (a *assembler) emit(b []byte, fields []api.Reloc) {
	start := a.fill(b)
	must(len(a.Relocs)+len(fields) <= api.MaxRelocs, api.ErrLimit)
	for _, r := range fields {
		r.Section = a.current
		r.Off += start
		a.Relocs = append(a.Relocs, r)
	}
	if a.listed != "" && len(b) > 0 {
		a.enterLine(start, a.fileIndex(a.listed), a.line)
	}
}

// fileIndex returns the index of a file, which is appended if it is not there.
func (a *assembler) fileIndex(name string) int {
	if i := slices.Index(a.Files, name); i >= 0 {
		return i
	}
	i := len(a.Files)
	must(i < api.MaxFiles, api.ErrLimit)
	a.Files = append(a.Files, name)
	return i
}

// enterLine puts an entry into the line table, in the place of an earlier one at the same offset.
func (a *assembler) enterLine(off, file, line int) {
	entry := api.Line{Section: a.current, Off: off, File: file, Line: line}
	at := place{a.current, off}
	if i, is := a.entries[at]; is {
		a.Lines[i] = entry
		return
	}
	must(len(a.Lines) < api.MaxLines, api.ErrLimit)
	a.entries[at] = len(a.Lines)
	a.Lines = append(a.Lines, entry)
}
