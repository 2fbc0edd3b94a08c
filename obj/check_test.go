package obj_test

import (
	"math"
	"strings"
	"testing"

	"candling/api"
	"candling/obj"
)

// change is a change of the sample.
type change struct {
	name string
	make func(*api.Object)
}

func changed(c change) api.Object {
	o := sample()
	c.make(&o)
	return o
}

// harmless are changes that leave the sample valid.
func harmless() []change {
	l := []change{
		{"nothing", func(o *api.Object) {}},
		{"all gone", func(o *api.Object) { *o = api.Object{} }},
		{"empty slices", func(o *api.Object) { *o = filled(api.Object{}) }},
		{"no symbols, relocations", func(o *api.Object) { o.Symbols, o.Relocs = nil, nil }},
		{"no lines, files", func(o *api.Object) { o.Lines, o.Files = nil, nil }},
		{"files without lines", func(o *api.Object) { o.Lines = nil }},
		{"lines of no file", func(o *api.Object) { o.Lines, o.Files = entries([4]int{0, 15, 0, 0}, [4]int{2, 0, 0, 0}), nil }},
		{"16 sections", func(o *api.Object) { addSections(o, 16) }},
		{"500 symbols", func(o *api.Object) { addSymbols(o, 500) }},
		{"2000 relocations", func(o *api.Object) { putRelocs(o, 2000) }},
		{"20 files", func(o *api.Object) { addFiles(o, 20) }},
		{"4000 lines", func(o *api.Object) { putLines(o, 4000) }},
		{"65536 bytes", func(o *api.Object) { fill(o, 65536) }},
		{"65536 bytes and an entry at the last one", func(o *api.Object) {
			*o = api.Object{Sections: []api.Section{{Name: "a", Rights: 1, Align: 1, Zero: 65536}}, Lines: entries([4]int{0, 65535, 0, 0})}
		}},
		{"symbol at the end", func(o *api.Object) { o.Symbols[1].Value = 16 }},
		{"symbol over all", func(o *api.Object) { o.Symbols[6].Value, o.Symbols[6].Size = 0, 20 }},
		{"absolute function", func(o *api.Object) { o.Symbols[3].Kind = api.SyFunc }},
		{"absolute, global", func(o *api.Object) { o.Symbols[3].Bind = api.SbGlobal }},
		{"field at the end", func(o *api.Object) { o.Relocs[4] = reloc(0, 15, api.RlByte, 0, 0) }},
		{"half at the end", func(o *api.Object) { o.Relocs[4] = reloc(0, 14, api.RlHalf, 0, 0) }},
		{"line at the end of zeros", func(o *api.Object) { o.Lines[3].Off = 0 }},
		{"section and symbol of one name", func(o *api.Object) { o.Symbols[0].Name = "text" }},
		{"file name of 100 bytes", func(o *api.Object) { o.Files[0] = strings.Repeat("!", 50) + strings.Repeat("~", 50) }},
		{"file name of 1 byte", func(o *api.Object) { o.Files[0] = "0" }},
	}
	for _, name := range []string{"a", "z", "A", "Z", "_", ".", "a0", "a9", "_$", "..", "a.b_c$1", strings.Repeat("a", 40)} {
		l = append(l, change{"section " + name, func(o *api.Object) { o.Sections[1].Name = name }})
		l = append(l, change{"symbol " + name, func(o *api.Object) { o.Symbols[1].Name = name }})
	}
	for rights := 1; rights <= 7; rights++ {
		l = append(l, change{"rights", func(o *api.Object) { o.Sections[2].Rights = rights }})
	}
	for align := 1; align <= 256; align *= 2 {
		l = append(l, change{"align", func(o *api.Object) { o.Sections[0].Align = align }})
	}
	return l
}

// harmful are changes that leave it invalid.
func harmful() []change {
	l := []change{
		{"17 sections", func(o *api.Object) { addSections(o, 17) }},
		{"501 symbols", func(o *api.Object) { addSymbols(o, 501) }},
		{"2001 relocations", func(o *api.Object) { putRelocs(o, 2001) }},
		{"21 files", func(o *api.Object) { addFiles(o, 21) }},
		{"4001 lines", func(o *api.Object) { putLines(o, 4001) }},
		{"65537 bytes", func(o *api.Object) { fill(o, 65537) }},
		{"65537 bytes of B", func(o *api.Object) { o.Sections[1].B = make([]byte, 65537) }},
		{"sections of one name", func(o *api.Object) { o.Sections[2].Name = "text" }},
		{"symbols of one name", func(o *api.Object) { o.Symbols[7].Name = "main" }},
		{"files of one name", func(o *api.Object) { o.Files[1] = "main.s" }},

		{"imported, local", func(o *api.Object) { o.Symbols[2].Bind = api.SbLocal }},
		{"imported, with a value", func(o *api.Object) { o.Symbols[2].Value = 1 }},
		{"imported, with a size", func(o *api.Object) { o.Symbols[2].Size = 1 }},
		{"imported, with a size below 0", func(o *api.Object) { o.Symbols[2].Size = -1 }},
		{"absolute, with a size", func(o *api.Object) { o.Symbols[3].Size = 1 }},
		{"absolute, with a size below 0", func(o *api.Object) { o.Symbols[3].Size = -1 }},
		{"size below 0", func(o *api.Object) { o.Symbols[1].Size = -1 }},
		{"least size", func(o *api.Object) { o.Symbols[1].Size = math.MinInt }},
		{"size beyond the end", func(o *api.Object) { o.Symbols[1].Size = 13 }},
		{"greatest size", func(o *api.Object) { o.Symbols[1].Size = math.MaxInt }},
		{"value beyond the end", func(o *api.Object) { o.Symbols[1].Value = 17 }},
		{"greatest value", func(o *api.Object) { o.Symbols[1].Value = math.MaxUint32 }},
		{"value beyond the zeros", func(o *api.Object) { o.Symbols[5].Value = 33 }},
		{"function in data", func(o *api.Object) { o.Symbols[4].Kind = api.SyFunc }},
		{"function in what cannot be executed any more", func(o *api.Object) { o.Sections[0].Rights = 3 }},

		{"relocations out of order", func(o *api.Object) { o.Relocs[0], o.Relocs[1] = o.Relocs[1], o.Relocs[0] }},
		{"sections of relocations out of order", func(o *api.Object) { o.Relocs[0].Section, o.Relocs[5].Section = 1, 0 }},
		{"relocation twice", func(o *api.Object) { o.Relocs[1] = o.Relocs[0] }},
		{"fields that overlap", func(o *api.Object) { o.Relocs[1].Off = 3 }},
		{"fields that overlap by the last byte", func(o *api.Object) { o.Relocs[3].Kind = api.RlDiff }},
		{"field ahead of B", func(o *api.Object) { o.Relocs[0].Off = -1 }},
		{"least offset of a field", func(o *api.Object) { o.Relocs[0].Off = math.MinInt }},
		{"field in zeros", func(o *api.Object) { o.Relocs[5].Off = 9 }},
		{"half behind the end", func(o *api.Object) { o.Relocs[4] = reloc(0, 15, api.RlHalf, 0, 0) }},
		{"byte behind the end", func(o *api.Object) { o.Relocs[4] = reloc(0, 16, api.RlByte, 0, 0) }},
		{"greatest offset of a field", func(o *api.Object) { o.Relocs[5].Off = math.MaxInt }},

		{"line of no file", func(o *api.Object) { o.Files = o.Files[:1] }},
		{"line 1 without files", func(o *api.Object) { o.Lines, o.Files = entries([4]int{0, 0, 0, 1}), nil }},
		{"file of line 0", func(o *api.Object) { o.Lines[2].File = 1 }},
		{"line behind its section", func(o *api.Object) { o.Lines[3].Off = 20 }},
		{"line of no section", func(o *api.Object) { o.Lines[4].Section = 3 }},
		{"lines out of order", func(o *api.Object) { o.Lines[0], o.Lines[1] = o.Lines[1], o.Lines[0] }},
		{"lines at one offset", func(o *api.Object) { o.Lines[1].Off = 0 }},
		{"sections of lines out of order", func(o *api.Object) { o.Lines[3].Section, o.Lines[4].Section = 2, 1 }},
	}
	for _, name := range []string{"", "0", "9a", "$", "a b", "a-", "a/", "a:", "a;", "a@", "a[", "a`", "a{", "@", "[", "`", "{", "/", "-", "é", "a\x00", "a\xff", strings.Repeat("a", 41)} {
		l = append(l, change{"section " + name, func(o *api.Object) { o.Sections[1].Name = name }})
		l = append(l, change{"symbol " + name, func(o *api.Object) { o.Symbols[1].Name = name }})
	}
	for _, name := range []string{"", " ", "a b", "a\n", "\x7f", "\xe9", "\x00", strings.Repeat("a", 101)} {
		l = append(l, change{"file " + name, func(o *api.Object) { o.Files[1] = name }})
	}
	for _, n := range []int{math.MinInt, -1, 1 << 32, math.MaxInt} {
		l = append(l, numbers(n)...)
	}
	for _, n := range []int{0, 8, 9} {
		l = append(l, change{"rights", func(o *api.Object) { o.Sections[2].Rights = n }})
	}
	for _, n := range []int{0, 3, 12, 255, 257, 384, 512, 1 << 31} {
		l = append(l, change{"align", func(o *api.Object) { o.Sections[1].Align = n }})
	}
	l = append(l,
		change{"bind", func(o *api.Object) { o.Symbols[4].Bind = 3 }},
		change{"kind", func(o *api.Object) { o.Symbols[4].Kind = 3 }},
		change{"section -3", func(o *api.Object) { o.Symbols[3].Section = -3 }},
		change{"section 3", func(o *api.Object) { o.Symbols[1].Section = 3 }},
		change{"section 3 of a relocation", func(o *api.Object) { o.Relocs[5].Section = 3 }},
		change{"kind 0 of a relocation", func(o *api.Object) { o.Relocs[5].Kind = 0 }},
		change{"kind 6 of a relocation", func(o *api.Object) { o.Relocs[5].Kind = 6 }},
		change{"symbol 8 of a relocation", func(o *api.Object) { o.Relocs[5].Symbol = 8 }},
		change{"file 2 of a line", func(o *api.Object) { o.Lines[4].File = 2 }},
		change{"line 1048577", func(o *api.Object) { o.Lines[4].Line = api.MaxLine + 1 }},
		change{"add of 2^31", func(o *api.Object) { o.Relocs[4].Add++ }},
		change{"add of -2^31 - 1", func(o *api.Object) { o.Relocs[5].Add-- }},
	)
	return l
}

// numbers puts a number that fits nowhere everywhere, one place at a time.
func numbers(n int) []change {
	return []change{
		{"Rights", func(o *api.Object) { o.Sections[2].Rights = n }},
		{"Align", func(o *api.Object) { o.Sections[2].Align = n }},
		{"Zero", func(o *api.Object) { o.Sections[2].Zero = n }},
		{"Zero of the first", func(o *api.Object) { o.Sections[0].Zero = n }},
		{"Section of a symbol", func(o *api.Object) { o.Symbols[6].Section = n&^1 - 2 }},
		{"Size", func(o *api.Object) { o.Symbols[0].Size = n }},
		{"Bind", func(o *api.Object) { o.Symbols[6].Bind = n }},
		{"Kind", func(o *api.Object) { o.Symbols[6].Kind = n }},
		{"Section of a relocation", func(o *api.Object) { o.Relocs[5].Section = n }},
		{"Off of a relocation", func(o *api.Object) { o.Relocs[5].Off = n }},
		{"Kind of a relocation", func(o *api.Object) { o.Relocs[5].Kind = n }},
		{"Symbol of a relocation", func(o *api.Object) { o.Relocs[5].Symbol = n }},
		{"Section of a line", func(o *api.Object) { o.Lines[4].Section = n }},
		{"Off of a line", func(o *api.Object) { o.Lines[4].Off = n }},
		{"File of a line", func(o *api.Object) { o.Lines[4].File = n }},
		{"Line of a line", func(o *api.Object) { o.Lines[4].Line = n }},
	}
}

// addSections brings the number of sections to n.
func addSections(o *api.Object, n int) {
	for _, name := range many(n-len(o.Sections), "s%d") {
		o.Sections = append(o.Sections, api.Section{Name: name, Rights: 7, Align: 2})
	}
}

func addSymbols(o *api.Object, n int) {
	for _, name := range many(n-len(o.Symbols), "s%d") {
		o.Symbols = append(o.Symbols, symbol(name, 0, 1, 2, api.SbLocal, api.SyNone))
	}
}

func addFiles(o *api.Object, n int) { o.Files = append(o.Files, many(n-len(o.Files), "f%d")...) }

// putRelocs puts n relocations into the last section, and no others.
func putRelocs(o *api.Object, n int) {
	o.Sections[2].B = make([]byte, n)
	o.Relocs = nil
	for i := range n {
		o.Relocs = append(o.Relocs, reloc(2, i, api.RlByte, i%8, -i))
	}
}

// putLines puts n entries into the last section, and no others.
func putLines(o *api.Object, n int) {
	o.Sections[2].Zero = n
	o.Lines = nil
	for i := range n {
		o.Lines = append(o.Lines, entry(2, i, i%2, 1+i*i%api.MaxLine))
	}
}

// fill brings the sections to n bytes.
func fill(o *api.Object, n int) {
	for _, s := range o.Sections {
		n -= lengthOf(s)
	}
	o.Sections[2].Zero += n
}

// P3.1: what is valid.
func TestCheck(t *testing.T) {
	for _, c := range harmless() {
		if err := obj.Check(changed(c)); err != api.OK {
			t.Errorf("%q: %d", c.name, err)
		}
	}
	for _, c := range harmful() {
		if err := obj.Check(changed(c)); err != api.ErrObject {
			t.Errorf("%q: %d", c.name, err)
		}
	}
}

// P3.2, P3.4: of what is not valid nothing is made.
func TestInvalidObjects(t *testing.T) {
	for _, c := range harmful() {
		o := changed(c)
		if b, err := obj.Bytes(o); err != api.ErrObject || len(b) > 0 {
			t.Errorf("Bytes, %q: %v, %d", c.name, b, err)
		}
		if x, err := obj.Strip(o); err != api.ErrObject || !isEqual(x, api.Object{}) {
			t.Errorf("Strip, %q: %+v, %d", c.name, x, err)
		}
		if x, err := obj.Sort(o); err != api.ErrObject || !isEqual(x, api.Object{}) {
			t.Errorf("Sort, %q: %+v, %d", c.name, x, err)
		}
	}
}

// P3.1: objects are the same if all fields are, valid or not.
func TestSame(t *testing.T) {
	var l []api.Object
	for _, c := range append(harmless(), harmful()...) {
		l = append(l, changed(c))
	}
	for seed := range uint64(30) {
		l = append(l, randomObject(random(seed)))
	}
	for _, a := range l {
		if !obj.Same(a, copyOf(a)) || !obj.Same(a, filled(a)) || !obj.Same(filled(a), a) {
			t.Fatalf("%+v is not the same as itself", a)
		}
		for _, b := range l {
			if got, want := obj.Same(a, b), isEqual(a, b); got != want {
				t.Fatalf("Same of %+v and %+v: %v", a, b, got)
			}
		}
	}
	for _, change := range fields() {
		b := sample()
		change(&b)
		if obj.Same(sample(), b) || obj.Same(b, sample()) {
			t.Errorf("%+v is the same", b)
		}
	}
}

// fields changes each field, one at a time.
func fields() []func(*api.Object) {
	return []func(*api.Object){
		func(o *api.Object) { o.Sections = o.Sections[:2] },
		func(o *api.Object) { o.Symbols = o.Symbols[:7] },
		func(o *api.Object) { o.Relocs = o.Relocs[:5] },
		func(o *api.Object) { o.Files = o.Files[:1] },
		func(o *api.Object) { o.Lines = nil },
		func(o *api.Object) { o.Sections[1].Name = "other" },
		func(o *api.Object) { o.Sections[1].Rights = 1 },
		func(o *api.Object) { o.Sections[1].Align = 2 },
		func(o *api.Object) { o.Sections[1].B[11]++ },
		func(o *api.Object) { o.Sections[1].B = o.Sections[1].B[:11] },
		func(o *api.Object) { o.Sections[1].Zero++ },
		func(o *api.Object) { o.Symbols[1].Name = "other" },
		func(o *api.Object) { o.Symbols[1].Section = 1 },
		func(o *api.Object) { o.Symbols[1].Value++ },
		func(o *api.Object) { o.Symbols[1].Size++ },
		func(o *api.Object) { o.Symbols[1].Bind++ },
		func(o *api.Object) { o.Symbols[1].Kind++ },
		func(o *api.Object) { o.Relocs[1].Section++ },
		func(o *api.Object) { o.Relocs[1].Off++ },
		func(o *api.Object) { o.Relocs[1].Kind++ },
		func(o *api.Object) { o.Relocs[1].Symbol++ },
		func(o *api.Object) { o.Relocs[1].Add++ },
		func(o *api.Object) { o.Files[1] = "other" },
		func(o *api.Object) { o.Lines[1].Section++ },
		func(o *api.Object) { o.Lines[1].Off++ },
		func(o *api.Object) { o.Lines[1].File-- },
		func(o *api.Object) { o.Lines[1].Line++ },
	}
}
