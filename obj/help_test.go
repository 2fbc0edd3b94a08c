package obj_test

import (
	"bytes"
	"cmp"
	"fmt"
	"math"
	"math/rand/v2"
	"reflect"
	"slices"
	"strings"
	"testing"

	"candling/api"
	"candling/obj"
)

func random(seed uint64) *rand.Rand { return rand.New(rand.NewPCG(seed, 3)) }

func pick[T any](r *rand.Rand, l ...T) T { return l[r.IntN(len(l))] }

func symbol(name string, section, value, size, bind, kind int) api.Symbol {
	return api.Symbol{Name: name, Section: section, Value: uint32(value), Size: size, Bind: bind, Kind: kind}
}

func reloc(section, off, kind, symbol, add int) api.Reloc {
	return api.Reloc{Section: section, Off: off, Kind: kind, Symbol: symbol, Add: add}
}

func entry(section, off, file, line int) api.Line {
	return api.Line{Section: section, Off: off, File: file, Line: line}
}

func entries(l ...[4]int) []api.Line {
	var out []api.Line
	for _, x := range l {
		out = append(out, entry(x[0], x[1], x[2], x[3]))
	}
	return out
}

// sample is a valid object that has something of everything.
func sample() api.Object {
	return api.Object{
		Sections: []api.Section{
			{Name: "text", Rights: 5, Align: 4, B: []byte("0123456789abcdef")},
			{Name: "data", Rights: 3, Align: 256, B: []byte("data of data"), Zero: 8},
			{Name: ".bss", Rights: 3, Align: 1, Zero: 32},
		},
		Symbols: []api.Symbol{
			symbol("main", 0, 0, 16, api.SbGlobal, api.SyFunc),
			symbol("loop", 0, 4, 0, api.SbLocal, api.SyNone),
			symbol("puts", api.SecNone, 0, 0, api.SbGlobal, api.SyFunc),
			symbol("_port", api.SecAbs, 0xffffffff, 0, api.SbLocal, api.SyData),
			symbol("table", 1, 4, 16, api.SbWeak, api.SyData),
			symbol("end$", 2, 32, 0, api.SbLocal, api.SyNone),
			symbol(".own", 1, 0, 4, api.SbLocal, api.SyNone),
			symbol("maybe", api.SecNone, 0, 0, api.SbWeak, api.SyNone),
		},
		Relocs: []api.Reloc{
			reloc(0, 0, api.RlWord, 1, 0),
			reloc(0, 4, api.RlDiff, 2, -4),
			reloc(0, 8, api.RlHalf, 3, 7),
			reloc(0, 10, api.RlByte, 3, 1),
			reloc(0, 12, api.RlPage, 4, math.MaxInt32),
			reloc(1, 8, api.RlWord, 0, math.MinInt32),
		},
		Files: []string{"main.s", "lib/puts.s"},
		Lines: entries([4]int{0, 0, 0, 1}, [4]int{0, 4, 1, 3}, [4]int{0, 12, 0, 0}, [4]int{1, 19, 0, api.MaxLine}, [4]int{2, 31, 1, 2}),
	}
}

// copyOf returns an object that shares no memory with o.
func copyOf(o api.Object) api.Object {
	c := api.Object{
		Sections: slices.Clone(o.Sections),
		Symbols:  slices.Clone(o.Symbols),
		Relocs:   slices.Clone(o.Relocs),
		Files:    slices.Clone(o.Files),
		Lines:    slices.Clone(o.Lines),
	}
	for i, s := range c.Sections {
		c.Sections[i].B = bytes.Clone(s.B)
	}
	return c
}

// filled is a copy without nil slices.
func filled(o api.Object) api.Object {
	c := copyOf(o)
	c.Sections = append([]api.Section{}, c.Sections...)
	c.Symbols = append([]api.Symbol{}, c.Symbols...)
	c.Relocs = append([]api.Reloc{}, c.Relocs...)
	c.Files = append([]string{}, c.Files...)
	c.Lines = append([]api.Line{}, c.Lines...)
	for i, s := range c.Sections {
		c.Sections[i].B = append([]byte{}, s.B...)
	}
	return c
}

// isEqual compares objects; nil and empty slices are equal.
func isEqual(a, b api.Object) bool { return reflect.DeepEqual(filled(a), filled(b)) }

// spoil writes over all memory of an object.
func spoil(o api.Object) {
	for i := range o.Sections {
		clear(o.Sections[i].B)
	}
	clear(o.Sections)
	clear(o.Symbols)
	clear(o.Relocs)
	clear(o.Files)
	clear(o.Lines)
}

// wantOwnMemory holds that a result shares no memory with the argument, which has not changed.
func wantOwnMemory(t *testing.T, argument, before, result api.Object) {
	t.Helper()
	if !isEqual(argument, before) {
		t.Fatalf("the argument %+v has become %+v", before, argument)
	}
	spoil(result)
	if !isEqual(argument, before) {
		t.Fatalf("a change of the result has changed the argument %+v to %+v", before, argument)
	}
}

func wantValid(t *testing.T, o api.Object) {
	t.Helper()
	if err := obj.Check(o); err != api.OK {
		t.Fatalf("Check of %+v: %d", o, err)
	}
}

func fileOf(t *testing.T, o api.Object) []byte {
	t.Helper()
	b, err := obj.Bytes(o)
	if err != api.OK {
		t.Fatalf("Bytes of %+v: %d", o, err)
	}
	return b
}

// many returns n names, made of their numbers.
func many(n int, format string) []string {
	var l []string
	for i := range n {
		l = append(l, fmt.Sprintf(format, i))
	}
	return l
}

// sizeOf returns how many bytes the field of a relocation has.
func sizeOf(kind int) int { return [...]int{0, 4, 2, 1, 4, 4}[kind] }

func lengthOf(s api.Section) int { return len(s.B) + s.Zero }

// randomObject returns a valid object.
func randomObject(r *rand.Rand) api.Object {
	var o api.Object
	for _, name := range randomNames(r, r.IntN(6)) {
		o.Sections = append(o.Sections, randomSection(r, name))
	}
	for _, name := range randomNames(r, r.IntN(12)) {
		o.Symbols = append(o.Symbols, randomSymbol(r, o, name))
	}
	if len(o.Symbols) > 0 {
		for i, s := range o.Sections {
			o.Relocs = append(o.Relocs, randomRelocs(r, i, len(s.B), len(o.Symbols))...)
		}
	}
	o.Files = many(r.IntN(4), pick(r, "f%d", "dir/%d.s", "%d!~"))
	r.Shuffle(len(o.Files), func(i, j int) { o.Files[i], o.Files[j] = o.Files[j], o.Files[i] })
	for i, s := range o.Sections {
		o.Lines = append(o.Lines, randomLines(r, i, lengthOf(s), len(o.Files))...)
	}
	return o
}

// randomNames returns n different names, in any order.
func randomNames(r *rand.Rand, n int) []string {
	l := many(n, pick(r, "n%d", "_%d$", ".L%d", "Z.%d"+strings.Repeat("x", 30)))
	r.Shuffle(n, func(i, j int) { l[i], l[j] = l[j], l[i] })
	return l
}

func randomSection(r *rand.Rand, name string) api.Section {
	s := api.Section{Name: name, Rights: 1 + r.IntN(7), Align: 1 << r.IntN(9)}
	s.B = make([]byte, pick(r, 0, 1, 4, 30, r.IntN(200)))
	for i := range s.B {
		s.B[i] = byte(r.Uint32())
	}
	s.Zero = pick(r, 0, 0, 1, 20, r.IntN(9000))
	return s
}

func randomSymbol(r *rand.Rand, o api.Object, name string) api.Symbol {
	s := api.Symbol{Name: name, Section: r.IntN(len(o.Sections)+2) - 2, Bind: r.IntN(3), Kind: r.IntN(3)}
	switch s.Section {
	case api.SecNone:
		s.Bind = 1 + r.IntN(2)
	case api.SecAbs:
		s.Value = pick(r, 0, 1, 255, math.MaxUint32, r.Uint32())
	default:
		section := o.Sections[s.Section]
		s.Value = uint32(r.IntN(lengthOf(section) + 1))
		s.Size = pick(r, 0, r.IntN(lengthOf(section)-int(s.Value)+1))
		if s.Kind == api.SyFunc && section.Rights&api.RtExec == 0 {
			s.Kind = api.SyData
		}
	}
	return s
}

func randomRelocs(r *rand.Rand, section, size, symbols int) []api.Reloc {
	var l []api.Reloc
	for off := r.IntN(8); ; off += pick(r, 0, 0, 1, r.IntN(40)) {
		x := reloc(section, off, 1+r.IntN(api.MaxRl), r.IntN(symbols), pick(r, 0, 1, -1, math.MinInt32, math.MaxInt32, int(int32(r.Uint32()))))
		if off += sizeOf(x.Kind); off > size {
			return l
		}
		l = append(l, x)
	}
}

func randomLines(r *rand.Rand, section, size, files int) []api.Line {
	var l []api.Line
	line := 1
	for off := pick(r, 0, 1, 4, r.IntN(100)); off < size; off += pick(r, 1, 2, 4, 4, 8, 44, 48, 1+r.IntN(300)) {
		line = max(0, min(api.MaxLine, line+pick(r, 0, 1, 2, -4, -5, 11, 12, r.IntN(200)-100, r.IntN(3*api.MaxLine)-api.MaxLine)))
		x := entry(section, off, 0, line)
		if files == 0 {
			x.Line = 0
		}
		if x.Line > 0 {
			x.File = r.IntN(files)
		}
		l = append(l, x)
	}
	return l
}

// placeOrder compares entries by section and offset.
func placeOrder(a, b api.Line) int {
	return cmp.Or(cmp.Compare(a.Section, b.Section), cmp.Compare(a.Off, b.Off))
}

// The objects that the tests make are what they say.
func TestRandomObjects(t *testing.T) {
	wantValid(t, sample())
	var sections, symbols, relocs, files, lines int
	for seed := range uint64(2000) {
		o := randomObject(random(seed))
		wantValid(t, o)
		sections += len(o.Sections)
		symbols += len(o.Symbols)
		relocs += len(o.Relocs)
		files += len(o.Files)
		lines += len(o.Lines)
	}
	if min(sections, symbols, relocs, files, lines) < 1000 {
		t.Errorf("%d sections, %d symbols, %d relocations, %d files, %d lines", sections, symbols, relocs, files, lines)
	}
}
