package asm

import (
	"cmp"
	"slices"
	"strconv"
	"strings"

	"candling/api"
	"candling/isa"
)

// Source returns a source text of an object.
func Source(o api.Object) (string, api.Errno) {
	if !isValid(o) || !isWritable(o) {
		return "", api.ErrForm
	}
	w := &writer{Object: o}
	w.writeFiles()
	w.writeSymbols()
	for i := range o.Sections {
		w.writeSection(i)
	}
	text := w.text.String()
	if !isSource(text) {
		return "", api.ErrLimit
	}
	return text, api.OK
}

// writer writes the object that it embeds.
type writer struct {
	api.Object
	text strings.Builder
	file int // the index of the file that was written last
}

func (w *writer) line(parts ...string) {
	for _, s := range parts {
		w.text.WriteString(s)
	}
	w.text.WriteByte('\n')
}

func (w *writer) writeFiles() {
	for i := range w.Files {
		w.writeFile(i)
	}
}

func (w *writer) writeFile(i int) {
	w.line(".file ", Quote([]byte(w.Files[i])))
	w.file = i
}

func (w *writer) writeSymbols() {
	for _, s := range w.Symbols {
		w.writeOrigin(s)
		switch {
		case s.Bind == api.SbGlobal && s.Section != api.SecNone:
			w.line(".global ", s.Name)
		case s.Bind == api.SbWeak:
			w.line(".weak ", s.Name)
		}
		switch s.Kind {
		case api.SyFunc:
			w.line(".func ", s.Name)
		case api.SyData:
			w.line(".object ", s.Name)
		}
		if s.Size != 0 {
			w.line(".size ", s.Name, ", ", strconv.Itoa(s.Size))
		}
	}
}

// writeOrigin writes the line that names a symbol first.
func (w *writer) writeOrigin(s api.Symbol) {
	switch s.Section {
	case api.SecNone:
		w.line(".import ", s.Name)
	case api.SecAbs:
		w.line(".abs ", s.Name, ", ", hexText(s.Value))
	default:
		w.line(".local ", s.Name)
	}
}

func (w *writer) writeSection(i int) {
	s := &sectionWriter{writer: w, Section: w.Sections[i]}
	for _, x := range w.Symbols {
		if x.Section == i {
			s.labels = append(s.labels, x)
		}
	}
	slices.SortStableFunc(s.labels, func(x, y api.Symbol) int { return cmp.Compare(x.Value, y.Value) })
	for _, r := range w.Relocs {
		if r.Section == i {
			s.fields = append(s.fields, r)
		}
	}
	for _, l := range w.Lines {
		if l.Section == i {
			s.entries = append(s.entries, l)
		}
	}
	s.write()
}

// sectionWriter writes the section that it embeds.
type sectionWriter struct {
	*writer
	api.Section
	at      int          // the offset that is reached
	labels  []api.Symbol // those that are not written yet, by their offsets; likewise the others
	fields  []api.Reloc
	entries []api.Line
}

func (w *sectionWriter) write() {
	w.line(".section ", w.Name, ", ", rightsText(w.Rights))
	if w.Align != 1 {
		w.line(".align ", strconv.Itoa(w.Align))
	}
	for {
		w.writeMarks()
		if w.at == lengthOf(w.Section) {
			return
		}
		w.writePiece()
	}
}

// writeMarks writes the labels and the entry at the offset that is reached.
func (w *sectionWriter) writeMarks() {
	for len(w.labels) > 0 && int(w.labels[0].Value) == w.at {
		w.line(w.labels[0].Name, ":")
		w.labels = w.labels[1:]
	}
	if len(w.entries) > 0 && w.entries[0].Off == w.at {
		w.writeEntry(w.entries[0])
		w.entries = w.entries[1:]
	}
}

func (w *sectionWriter) writeEntry(l api.Line) {
	if l.Line != 0 && l.File != w.file {
		w.writeFile(l.File)
	}
	w.line(".loc ", strconv.Itoa(l.Line))
}

// nextMark returns the next offset with a label or an entry, or the end of the section.
func (w *sectionWriter) nextMark() int {
	next := lengthOf(w.Section)
	if len(w.labels) > 0 {
		next = min(next, int(w.labels[0].Value))
	}
	if len(w.entries) > 0 {
		next = min(next, w.entries[0].Off)
	}
	return next
}

// writePiece writes the line for the next bytes.
func (w *sectionWriter) writePiece() {
	switch {
	case w.at >= len(w.B):
		w.writeReserve()
	case len(w.fields) > 0 && w.fields[0].Off == w.at:
		w.writeField()
	case !w.writeInsn():
		w.writeBytes()
	}
}

func (w *sectionWriter) writeReserve() {
	end := w.nextMark()
	w.line(".reserve ", strconv.Itoa(end-w.at))
	w.at = end
}

func (w *sectionWriter) writeField() {
	r := w.fields[0]
	w.fields = w.fields[1:]
	w.line(fieldDirective(r.Kind), " ", w.target(r))
	w.at += fieldSize(r.Kind)
}

func fieldDirective(kind int) string {
	switch kind {
	case api.RlByte:
		return ".byte"
	case api.RlHalf:
		return ".half"
	case api.RlDiff:
		return ".diff"
	case api.RlPage:
		return ".page"
	}
	return ".word"
}

// target returns the sum of a relocation.
func (w *sectionWriter) target(r api.Reloc) string {
	return w.Symbols[r.Symbol].Name + offsetText(r.Add)
}

// writeInsn writes the instruction at the offset that is reached, and reports whether there is one that can be written.
func (w *sectionWriter) writeInsn() bool {
	if w.Rights&api.RtExec == 0 {
		return false
	}
	x, size, err := isa.Decode(w.B[w.at:])
	end := w.at + size
	if err != api.OK || w.nextMark() < end {
		return false
	}
	text, _ := isa.Text(x)
	if len(w.fields) > 0 && w.fields[0].Off < end {
		r := w.fields[0]
		if r.Kind != api.RlWord || r.Off != w.at+immediate {
			return false
		}
		text = strings.Replace(text, noWord, w.target(r), 1)
		w.fields = w.fields[1:]
	}
	w.line(text)
	w.at = end
	return true
}

// writeBytes writes as many bytes as one line can.
func (w *sectionWriter) writeBytes() {
	most := 16
	if w.Rights&api.RtExec != 0 {
		most = 4
	}
	end := min(w.at+most, w.nextMark(), len(w.B))
	if len(w.fields) > 0 {
		end = min(end, w.fields[0].Off)
	}
	var numbers []string
	for _, c := range w.B[w.at:end] {
		numbers = append(numbers, strconv.Itoa(int(c)))
	}
	w.line(".byte ", strings.Join(numbers, ", "))
	w.at = end
}
