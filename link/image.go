package link

import (
	"cmp"
	"slices"

	"candling/api"
	"candling/obj"
)

// maxField is how many bytes a field of a relocation has at most.
const maxField = 4

// program is objects that have been placed.
type program struct {
	layout
	l []api.Object
}

// address returns the address of a symbol.
func (p program) address(ref api.SymRef) uint32 {
	if ref.Object < 0 {
		return 0
	}
	s := p.l[ref.Object].Symbols[ref.Symbol]
	if s.Section == api.SecAbs {
		return s.Value
	}
	return uint32(p.at[ref.Object][s.Section]) + s.Value
}

// segments returns the segments that have bytes, with the values of all relocations.
func (p program) segments(refs [][]api.SymRef) []api.Segment {
	b := p.bytes()
	for i, o := range p.l {
		for _, r := range o.Relocs {
			at := p.at[i][r.Section] + r.Off
			segment := o.Sections[r.Section].Rights
			err := relocate(b[segment][at-p.start[segment]:], r, p.address(refs[i][r.Symbol]), uint32(at))
			must(err == api.OK, err, o.Symbols[r.Symbol].Name)
		}
	}
	var l []api.Segment
	for _, r := range segmentOrder() {
		if len(b[r]) > 0 {
			l = append(l, api.Segment{At: uint32(p.start[r]), Rights: r, B: b[r]})
		}
	}
	return l
}

// bytes returns the bytes of the segment of each Rights as they are ahead of all relocations.
func (p program) bytes() [rights][]byte {
	var b [rights][]byte
	for _, r := range segmentOrder() {
		b[r] = make([]byte, p.stop[r]-p.start[r])
	}
	for i, o := range p.l {
		for j, s := range o.Sections {
			copy(b[s.Rights][p.at[i][j]-p.start[s.Rights]:], s.B)
		}
	}
	return b
}

// relocate puts the value of a relocation into the field at the beginning of b.
func relocate(b []byte, r api.Reloc, symbol, field uint32) api.Errno {
	// Only as many bytes as a field can have are given to Apply, which copies all that it is given.
	c, err := obj.Apply(b[:min(maxField, len(b))], 0, r.Kind, symbol, r.Add, field)
	copy(b, c)
	return err
}

// symbols returns all defined symbols.
func (p program) symbols() []api.ImageSym {
	var l []api.ImageSym
	visit(p.l, func(ref api.SymRef, s api.Symbol) {
		if isDefined(s) {
			l = append(l, api.ImageSym{
				Name:   s.Name,
				At:     p.address(ref),
				Size:   s.Size,
				Kind:   s.Kind,
				Object: ref.Object,
				Local:  s.Bind == api.SbLocal,
				Abs:    s.Section == api.SecAbs,
			})
		}
	})
	slices.SortFunc(l, compareSymbols)
	return l
}

// compareSymbols compares symbols as they are sorted in an image.
func compareSymbols(a, b api.ImageSym) int {
	return cmp.Or(cmp.Compare(a.At, b.At), cmp.Compare(a.Name, b.Name), cmp.Compare(a.Object, b.Object))
}

// filesOf returns the different files of objects, in the order in which they come first.
func filesOf(l []api.Object) []string {
	var files []string
	isKnown := map[string]bool{}
	for _, o := range l {
		for _, name := range o.Files {
			if !isKnown[name] {
				isKnown[name] = true
				files = append(files, name)
			}
		}
	}
	return files
}

// lines returns the lines of all bytes that have one.
func (p program) lines(files []string) []api.ImageLine {
	indices := map[string]int{}
	for i, name := range files {
		indices[name] = i
	}
	var l []api.ImageLine
	for i, o := range p.l {
		for k, x := range o.Lines {
			if x.Line == 0 {
				continue
			}
			l = append(l, api.ImageLine{
				At:   uint32(p.at[i][x.Section] + x.Off),
				N:    endOf(o, k) - x.Off,
				File: indices[o.Files[x.File]],
				Line: x.Line,
			})
		}
	}
	slices.SortFunc(l, func(a, b api.ImageLine) int { return cmp.Compare(a.At, b.At) })
	return l
}

// endOf returns the offset up to which an entry of an object's line table covers its section.
func endOf(o api.Object, k int) int {
	section := o.Lines[k].Section
	if k+1 < len(o.Lines) && o.Lines[k+1].Section == section {
		return o.Lines[k+1].Off
	}
	return len(o.Sections[section].B) + o.Sections[section].Zero
}
