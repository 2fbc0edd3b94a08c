package obj

import (
	"bytes"

	"candling/api"
)

// mark is what an object file begins with.
const mark = "CNDO"

// maxProgram is how many bytes the line program of an object file has at most.
const maxProgram = 100000

// bindings is how many numbers of bindings there is room for beside the number of a kind.
const bindings = 4

// Bytes returns the object file of an object.
func Bytes(o api.Object) ([]byte, api.Errno) {
	if Check(o) != api.OK {
		return nil, api.ErrObject
	}
	program, _ := Pack(o.Lines)
	w := &writer{}
	w.bytes([]byte(mark)...)
	writeList(w, o.Sections, (*writer).section)
	writeList(w, o.Symbols, (*writer).symbol)
	writeList(w, o.Relocs, (*writer).reloc)
	writeList(w, o.Files, (*writer).text)
	w.counted(program)
	w.word(Sum(w.b))
	return w.b, api.OK
}

// writeList writes the number of a list's elements, and these.
func writeList[T any](w *writer, l []T, write func(*writer, T)) {
	w.number(len(l))
	for _, x := range l {
		write(w, x)
	}
}

func (w *writer) text(s string) { w.counted([]byte(s)) }

func (w *writer) section(s api.Section) {
	w.text(s.Name)
	w.number(s.Rights)
	w.number(s.Align)
	w.counted(s.B)
	w.number(s.Zero)
}

func (w *writer) symbol(s api.Symbol) {
	w.text(s.Name)
	w.signed(s.Section)
	w.number(int(s.Value))
	w.number(s.Size)
	w.number(s.Bind + bindings*s.Kind)
}

func (w *writer) reloc(r api.Reloc) {
	w.number(r.Section)
	w.number(r.Off)
	w.number(r.Kind)
	w.number(r.Symbol)
	w.signed(r.Add)
}

// Read returns the object whose object file b is, or the byte offset of the first error.
func Read(b []byte) (o api.Object, at int, err api.Errno) {
	defer func() {
		if f, failed := recover().(fault); failed {
			o, at, err = api.Object{}, f.at, f.err
		}
	}()
	r := &reader{position{b: b}}
	return r.object(), 0, api.OK
}

// reader reads an object file, from the position that it embeds on.
type reader struct{ position }

func (r *reader) object() api.Object {
	must(bytes.HasPrefix(r.b, []byte(mark)), 0, api.ErrForm)
	r.take(len(mark))
	o := api.Object{
		Sections: readList(r, api.MaxSections, (*reader).section),
		Symbols:  readList(r, api.MaxSymbols, (*reader).symbol),
		Relocs:   readList(r, api.MaxRelocs, (*reader).reloc),
		Files:    readList(r, api.MaxFiles, func(r *reader) string { return r.text(maxFileName) }),
	}
	program := r.counted(maxProgram)
	end := r.at
	sum := r.word()
	must(r.isAtEnd(), r.at, api.ErrForm)
	must(sum == Sum(r.b[:end]), end, api.ErrSum)
	lines, isShortest := unpackShortest(program)
	must(isShortest, end-len(program), api.ErrProgram)
	o.Lines = lines
	must(Check(o) == api.OK, 0, api.ErrObject)
	return o
}

// unpackShortest returns the table of a line program, and whether there is one of which Pack makes this program.
func unpackShortest(program []byte) ([]api.Line, bool) {
	l, err := Unpack(program)
	if err != api.OK {
		return nil, false
	}
	again, _ := Pack(l)
	return l, bytes.Equal(again, program)
}

// readList reads the number of a list's elements, at most so many, and these.
func readList[T any](r *reader, most int, read func(*reader) T) []T {
	var l []T
	for range r.upTo(most) {
		l = append(l, read(r))
	}
	return l
}

func (r *reader) text(most int) string { return string(r.counted(most)) }

func (r *reader) section() api.Section {
	return api.Section{
		Name:   r.text(api.MaxName),
		Rights: r.number(),
		Align:  r.number(),
		B:      bytes.Clone(r.counted(api.MaxObjLen)),
		Zero:   r.number(),
	}
}

func (r *reader) symbol() api.Symbol {
	s := api.Symbol{
		Name:    r.text(api.MaxName),
		Section: r.signed(),
		Value:   uint32(r.number()),
		Size:    r.number(),
	}
	n := r.number()
	s.Bind, s.Kind = n%bindings, n/bindings
	return s
}

func (r *reader) reloc() api.Reloc {
	return api.Reloc{
		Section: r.number(),
		Off:     r.number(),
		Kind:    r.number(),
		Symbol:  r.number(),
		Add:     r.signed(),
	}
}
