package link_test

import (
	"bytes"
	"fmt"
	"math"
	"math/rand/v2"
	"reflect"
	"slices"
	"testing"

	"candling/api"
	"candling/link"
	"candling/obj"
)

func random(seed uint64) *rand.Rand { return rand.New(rand.NewPCG(seed, 4)) }

func pick[T any](r *rand.Rand, l ...T) T { return l[r.IntN(len(l))] }

// isOneIn is true once in n times.
func isOneIn(r *rand.Rand, n int) bool { return r.IntN(n) == 0 }

func section(name string, rights, align int, b []byte, zero int) api.Section {
	return api.Section{Name: name, Rights: rights, Align: align, B: b, Zero: zero}
}

func symbol(name string, section, value, size, bind, kind int) api.Symbol {
	return api.Symbol{Name: name, Section: section, Value: uint32(value), Size: size, Bind: bind, Kind: kind}
}

func imported(name string, bind int) api.Symbol {
	return api.Symbol{Name: name, Section: api.SecNone, Bind: bind}
}

func absolute(name string, value uint32, bind int) api.Symbol {
	return api.Symbol{Name: name, Section: api.SecAbs, Value: value, Bind: bind}
}

func reloc(section, off, kind, symbol, add int) api.Reloc {
	return api.Reloc{Section: section, Off: off, Kind: kind, Symbol: symbol, Add: add}
}

func objects(l ...api.Object) []api.Object { return l }

// withSymbols is an object without sections.
func withSymbols(l ...api.Symbol) api.Object { return api.Object{Symbols: l} }

// exampleA and exampleB are the objects of the chapter's examples.
func exampleA() api.Object {
	return api.Object{
		Sections: []api.Section{section(".text", 5, 4, make([]byte, 8), 0)},
		Symbols:  []api.Symbol{symbol("main", 0, 0, 8, api.SbGlobal, api.SyFunc), imported("x", api.SbGlobal)},
		Relocs:   []api.Reloc{reloc(0, 4, api.RlWord, 1, 2)},
	}
}

func exampleB() api.Object {
	return api.Object{
		Sections: []api.Section{section(".data", 3, 8, []byte{1, 2, 3}, 5)},
		Symbols:  []api.Symbol{symbol("x", 0, 2, 1, api.SbGlobal, api.SyData)},
	}
}

func conf(base uint32, entry string) api.LinkConf { return api.LinkConf{Base: base, Entry: entry} }

// imageOf links what can be linked.
func imageOf(t *testing.T, l, lib []api.Object, c api.LinkConf) api.Image {
	t.Helper()
	img, name, err := link.Link(l, lib, c)
	if err != api.OK || name != "" {
		t.Fatalf("Link: %q, %d", name, err)
	}
	return img
}

// copyOf returns an object that shares no memory with o.
func copyOf(o api.Object) api.Object {
	c := api.Object{
		Sections: slices.Clone(o.Sections),
		Symbols:  slices.Clone(o.Symbols),
		Relocs:   slices.Clone(o.Relocs),
		Files:    slices.Clone(o.Files),
		Lines:    slices.Clone(o.Lines),
	}
	for i, s := range c.Sections {
		c.Sections[i].B = bytes.Clone(s.B)
	}
	return c
}

func copiesOf(l []api.Object) []api.Object {
	var c []api.Object
	for _, o := range l {
		c = append(c, copyOf(o))
	}
	return c
}

// spoil writes over all memory of objects.
func spoil(l []api.Object) {
	for _, o := range l {
		for _, s := range o.Sections {
			for i := range s.B {
				s.B[i] ^= 0x55
			}
		}
		clear(o.Sections)
		clear(o.Symbols)
		clear(o.Relocs)
		clear(o.Files)
		clear(o.Lines)
	}
}

// filled is a copy of an image without nil slices.
func filled(i api.Image) api.Image {
	c := api.Image{
		Segments: append([]api.Segment{}, i.Segments...),
		Entry:    i.Entry,
		Symbols:  append([]api.ImageSym{}, i.Symbols...),
		Files:    append([]string{}, i.Files...),
		Lines:    append([]api.ImageLine{}, i.Lines...),
	}
	for k, s := range c.Segments {
		c.Segments[k].B = append([]byte{}, s.B...)
	}
	return c
}

// isEqual compares images; nil and empty slices are equal.
func isEqual(a, b api.Image) bool { return reflect.DeepEqual(filled(a), filled(b)) }

func lengthOf(s api.Section) int { return len(s.B) + s.Zero }

// sizeOf returns how many bytes the field of a relocation has.
func sizeOf(kind int) int { return [...]int{0, 4, 2, 1, 4, 4}[kind] }

// maker makes random objects that can mostly be linked together.
type maker struct {
	*rand.Rand
	troubles int             // one in so many symbols and relocations is left to chance
	owned    map[string]bool // names that some object exports with SbGlobal
}

func names() []string {
	var l []string
	for i := range 16 {
		l = append(l, fmt.Sprintf("n%d", i))
	}
	return l
}

func (m *maker) object() api.Object {
	var o api.Object
	for i := range m.IntN(5) {
		b := make([]byte, pick(m.Rand, 0, 0, 1, 4, 30, m.IntN(300)))
		for k := range b {
			b[k] = byte(m.Uint32())
		}
		zero := pick(m.Rand, 0, 0, 0, 1, 20, m.IntN(600))
		o.Sections = append(o.Sections, section(fmt.Sprintf("s%d", i), 1+m.IntN(7), 1<<m.IntN(9), b, zero))
	}
	for _, name := range names() {
		if isOneIn(m.Rand, 3) {
			o.Symbols = append(o.Symbols, m.symbol(o, name))
		}
	}
	m.Shuffle(len(o.Symbols), func(i, j int) { o.Symbols[i], o.Symbols[j] = o.Symbols[j], o.Symbols[i] })
	if len(o.Symbols) > 0 {
		for i, s := range o.Sections {
			o.Relocs = append(o.Relocs, m.relocs(o, i, len(s.B))...)
		}
	}
	for i := range m.IntN(4) {
		o.Files = append(o.Files, fmt.Sprintf("file%d", (i+m.IntN(3))*4+i))
	}
	for i, s := range o.Sections {
		o.Lines = append(o.Lines, m.lines(i, lengthOf(s), len(o.Files))...)
	}
	return o
}

func (m *maker) symbol(o api.Object, name string) api.Symbol {
	isTrouble := isOneIn(m.Rand, m.troubles)
	switch m.IntN(6) {
	case 0:
		return imported(name, api.SbWeak)
	case 1, 2:
		if m.owned[name] || isTrouble {
			return imported(name, api.SbGlobal)
		}
	}
	s := symbol(name, m.IntN(len(o.Sections)+1)-1, 0, 0, m.IntN(3), m.IntN(3))
	if s.Bind == api.SbGlobal {
		if m.owned[name] && !isTrouble {
			s.Bind = api.SbWeak
		}
		m.owned[name] = true
	}
	if s.Section < 0 {
		s.Section, s.Value = api.SecAbs, pick(m.Rand, 0, 1, 255, 40000, math.MaxUint32, m.Uint32())
		return s
	}
	length := lengthOf(o.Sections[s.Section])
	s.Value = uint32(m.IntN(length + 1))
	s.Size = pick(m.Rand, 0, m.IntN(length-int(s.Value)+1))
	if s.Kind == api.SyFunc && o.Sections[s.Section].Rights&api.RtExec == 0 {
		s.Kind = api.SyData
	}
	return s
}

func (m *maker) relocs(o api.Object, section, size int) []api.Reloc {
	var l []api.Reloc
	for off := m.IntN(8); ; off += pick(m.Rand, 0, 0, 1, m.IntN(40)) {
		k := m.IntN(len(o.Symbols))
		x := reloc(section, off, 1+m.IntN(api.MaxRl), k, pick(m.Rand, 0, 1, -1, math.MinInt32, math.MaxInt32, int(int32(m.Uint32()))))
		isSmall := o.Symbols[k].Section == api.SecAbs && o.Symbols[k].Value < 256 && o.Symbols[k].Bind == api.SbLocal
		if (x.Kind == api.RlHalf || x.Kind == api.RlByte) && !isOneIn(m.Rand, m.troubles) {
			x.Add = m.IntN(200) - 100
			if !isSmall || int(o.Symbols[k].Value)+x.Add > 255 {
				x.Kind = api.RlDiff
			}
		}
		if off += sizeOf(x.Kind); off > size {
			return l
		}
		l = append(l, x)
	}
}

func (m *maker) lines(section, size, files int) []api.Line {
	var l []api.Line
	for off := m.IntN(100); off < size; off += 1 + m.IntN(50) {
		x := api.Line{Section: section, Off: off}
		if files > 0 && !isOneIn(m.Rand, 5) {
			x.File, x.Line = m.IntN(files), 1+m.IntN(api.MaxLine)
		}
		l = append(l, x)
	}
	return l
}

// task is a call of Link.
type task struct {
	l, lib []api.Object
	c      api.LinkConf
}

// randomTask makes objects, a library and a configuration; one in troubles of their parts may make that Link fails.
func randomTask(seed uint64, troubles int) task {
	r := random(seed)
	m := &maker{r, troubles, map[string]bool{}}
	var x task
	for range r.IntN(6) {
		x.lib = append(x.lib, m.object())
	}
	for range 1 + r.IntN(4) {
		x.l = append(x.l, m.object())
	}
	x.c = conf(uint32(pick(r, 0, 16, 16, 400, 1<<24-5, r.IntN(1<<24)))*api.PageSize, pick(r, names()...))
	if isOneIn(r, troubles) {
		x.c.Base += uint32(pick(r, 1, 4, 128, 255))
	}
	return x
}

// tasks are random calls of Link that succeed, with their images.
func tasks(t *testing.T, n int, check func(task, api.Image)) {
	t.Helper()
	count := 0
	for seed := range uint64(40 * n) {
		x := randomTask(seed, 1000)
		if img, _, err := link.Link(x.l, x.lib, x.c); err == api.OK {
			check(x, img)
			if count++; count == n {
				return
			}
		}
	}
	t.Fatalf("only %d of %d tasks succeed", count, n)
}

// all returns the objects that are linked.
func (x task) all() []api.Object {
	l := slices.Clone(x.l)
	members, _ := link.Pull(x.l, x.lib)
	for _, m := range members {
		l = append(l, x.lib[m])
	}
	return l
}

// The objects that the tests make are valid, and have everything.
func TestRandomObjects(t *testing.T) {
	var sections, symbols, relocs, files, lines int
	for seed := range uint64(300) {
		x := randomTask(seed, 50)
		for _, o := range append(slices.Clone(x.l), x.lib...) {
			if err := obj.Check(o); err != api.OK {
				t.Fatalf("Check of %+v: %d", o, err)
			}
			sections += len(o.Sections)
			symbols += len(o.Symbols)
			relocs += len(o.Relocs)
			files += len(o.Files)
			lines += len(o.Lines)
		}
	}
	if min(sections, symbols, relocs, files, lines) < 500 {
		t.Errorf("%d sections, %d symbols, %d relocations, %d files, %d lines", sections, symbols, relocs, files, lines)
	}
}
