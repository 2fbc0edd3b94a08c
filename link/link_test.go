package link_test

import (
	"fmt"
	"math"
	"slices"
	"testing"

	"candling/api"
	"candling/link"
)

// linkCase is a call of Link that fails, or not.
type linkCase struct {
	name   string
	l, lib []api.Object
	c      api.LinkConf
	about  string
	err    api.Errno
}

// P4.3: the example of the chapter.
func TestExample(t *testing.T) {
	want := api.Image{
		Segments: []api.Segment{
			{At: 4096, Rights: 5, B: []byte{0, 0, 0, 0, 4, 17, 0, 0}},
			{At: 4352, Rights: 3, B: []byte{1, 2, 3, 0, 0, 0, 0, 0}},
		},
		Entry: 4096,
		Symbols: []api.ImageSym{
			{Name: "main", At: 4096, Size: 8, Kind: api.SyFunc},
			{Name: "x", At: 4354, Size: 1, Kind: api.SyData, Object: 1},
		},
	}
	a, b := exampleA(), exampleB()
	if img := imageOf(t, objects(a, b), nil, conf(4096, "main")); !isEqual(img, want) {
		t.Errorf("%+v, want %+v", img, want)
	}
	if img := imageOf(t, objects(a), objects(b), conf(4096, "main")); !isEqual(img, want) {
		t.Errorf("with a library: %+v, want %+v", img, want)
	}
	if img := imageOf(t, objects(a), objects(exampleA(), b, b), conf(4096, "main")); !isEqual(img, want) {
		t.Errorf("with a member that is not needed: %+v, want %+v", img, want)
	}
}

// manyObjects are n objects, of which the first one exports main.
func manyObjects(n int) []api.Object {
	l := objects(withSymbols(absolute("main", 0, api.SbGlobal)))
	for range n - 1 {
		l = append(l, api.Object{})
	}
	return l
}

// chain are n objects, each of which needs the next one; the last one needs nothing.
func chain(n int) []api.Object {
	var l []api.Object
	for i := range n {
		o := withSymbols(absolute(fmt.Sprintf("c%d", i), 0, api.SbGlobal), imported(fmt.Sprintf("c%d", i+1), api.SbGlobal))
		if i == n-1 {
			o.Symbols = o.Symbols[:1]
		}
		l = append(l, o)
	}
	return l
}

// P4.3: the errors of Link, and their order.
func TestLinkErrors(t *testing.T) {
	a, b := exampleA(), exampleB()
	invalid := api.Object{Files: []string{""}}
	needy := withSymbols(absolute("main", 0, api.SbGlobal), imported("c1", api.SbGlobal))
	tooSmall := exampleA()
	tooSmall.Relocs = []api.Reloc{reloc(0, 0, api.RlHalf, 0, math.MinInt32), reloc(0, 4, api.RlByte, 1, 0)}
	for _, c := range []linkCase{
		{"undefined", objects(a), nil, conf(4096, "main"), "x", api.ErrUndef},
		{"duplicate", objects(a, b, b), nil, conf(4096, "main"), "x", api.ErrDup},
		{"no entry", objects(a, b), nil, conf(4096, "start"), "start", api.ErrUndef},
		{"no name of the entry", objects(a, b), nil, conf(4096, ""), "", api.ErrUndef},
		{"base", objects(a, b), nil, conf(4100, "main"), "", api.ErrArg},
		{"base that is not needed", manyObjects(1), nil, conf(255, "main"), "", api.ErrArg},
		{"no place", objects(a, b), nil, conf(1<<32-256, "main"), "", api.ErrPlace},
		{"range", objects(tooSmall, b), nil, conf(4096, "main"), "main", api.ErrRange},
		{"second range", objects(a, b, exampleRange()), nil, conf(4096, "main"), "x", api.ErrRange},
		{"21 objects", manyObjects(21), nil, conf(0, "main"), "", api.ErrLimit},
		{"20 objects", manyObjects(20), nil, conf(0, "main"), "", api.OK},
		{"21 members", manyObjects(1), make([]api.Object, 21), conf(0, "main"), "", api.ErrLimit},
		{"20 members", manyObjects(1), make([]api.Object, 20), conf(0, "main"), "", api.OK},
		{"21 invalid members", objects(invalid), slices.Repeat(objects(invalid), 21), conf(1, "none"), "", api.ErrLimit},
		{"invalid object", objects(a, b, invalid), nil, conf(4096, "main"), "", api.ErrObject},
		{"invalid member that is not needed", objects(a, b), objects(b, invalid), conf(4096, "main"), "", api.ErrObject},
		{"invalid before all others", objects(a, invalid, b, b), nil, conf(1, "none"), "", api.ErrObject},
		{"19 are pulled", objects(needy), chain(20), conf(0, "main"), "", api.OK},
		{"20 are pulled", objects(needy, api.Object{}), chain(20), conf(0, "main"), "", api.ErrLimit},
		{"too many before duplicates", objects(needy, needy), chain(20), conf(0, "main"), "", api.ErrLimit},
		{"duplicate before undefined", objects(a, exampleA()), nil, conf(1, "none"), "main", api.ErrDup},
		{"undefined before the entry", objects(a), nil, conf(1, "none"), "x", api.ErrUndef},
		{"the entry before the base", objects(a, b), nil, conf(1, "none"), "none", api.ErrUndef},
		{"the base before the range", objects(tooSmall, b), nil, conf(1, "main"), "", api.ErrArg},
		{"the place before the range", objects(tooSmall, b), nil, conf(1<<32-256, "main"), "", api.ErrPlace},
		{"nothing", nil, nil, conf(0, "main"), "main", api.ErrUndef},
		{"entry of a member", nil, objects(a, b), conf(0, "main"), "main", api.ErrUndef},
		{"local entry", objects(withSymbols(absolute("main", 1, api.SbLocal))), nil, conf(0, "main"), "main", api.ErrUndef},
		{"imported entry", objects(withSymbols(imported("main", api.SbWeak))), nil, conf(0, "main"), "main", api.ErrUndef},
	} {
		img, name, err := link.Link(c.l, c.lib, c.c)
		if err != c.err || name != c.about {
			t.Errorf("%s: %q, %d, want %q, %d", c.name, name, err, c.about, c.err)
		}
		if err != api.OK && !isEqual(img, api.Image{}) {
			t.Errorf("%s: an image with the error: %+v", c.name, img)
		}
	}
}

// exampleRange is an object of which the second of three relocations, and the third one, do not fit.
func exampleRange() api.Object {
	return api.Object{
		Sections: []api.Section{section("a", 5, 1, make([]byte, 8), 0)},
		Symbols:  []api.Symbol{imported("main", api.SbGlobal), imported("x", api.SbGlobal)},
		Relocs:   []api.Reloc{reloc(0, 1, api.RlHalf, 0, 0), reloc(0, 3, api.RlByte, 1, 0), reloc(0, 4, api.RlByte, 0, 0)},
	}
}

// P4.3: the entry is weak if there is no global symbol of its name, and may be a number.
func TestEntry(t *testing.T) {
	weak := withSymbols(absolute("main", 7, api.SbWeak))
	weaker := withSymbols(absolute("main", 8, api.SbWeak))
	global := withSymbols(absolute("main", math.MaxUint32, api.SbGlobal))
	local := withSymbols(absolute("main", 5, api.SbLocal))
	for _, c := range []struct {
		l    []api.Object
		want uint32
	}{
		{objects(local, weak, weaker), 7},
		{objects(weaker, local, weak), 8},
		{objects(weak, local, global, weaker), math.MaxUint32},
	} {
		if img := imageOf(t, c.l, nil, conf(512, "main")); img.Entry != c.want {
			t.Errorf("Entry %d, want %d", img.Entry, c.want)
		}
	}
	// The name of the entry pulls nothing.
	if _, name, err := link.Link(objects(local), objects(global), conf(512, "main")); err != api.ErrUndef || name != "main" {
		t.Errorf("Entry of a member: %q, %d", name, err)
	}
}

// P4.3: the values of all kinds of relocations, of symbols of all kinds.
func TestRelocations(t *testing.T) {
	a := api.Object{
		Sections: []api.Section{section("a", 6, 1, []byte{9}, 0), section("b", 6, 4, slices.Repeat([]byte{0xee}, 24), 3)},
		Symbols: []api.Symbol{
			symbol("own", 1, 1, 0, api.SbLocal, api.SyNone),
			imported("none", api.SbWeak),
			absolute("abs", 300, api.SbGlobal),
			imported("far", api.SbGlobal),
			absolute("taken", 1, api.SbWeak),
		},
		Relocs: []api.Reloc{
			reloc(1, 0, api.RlWord, 0, 0), reloc(1, 4, api.RlWord, 1, -1), reloc(1, 9, api.RlByte, 2, -45),
			reloc(1, 10, api.RlHalf, 2, -301), reloc(1, 12, api.RlDiff, 3, 4), reloc(1, 17, api.RlPage, 4, 0x100), reloc(1, 23, api.RlByte, 4, 0xff-0x2134),
		},
	}
	b := api.Object{
		Sections: []api.Section{section("c", 6, 16, []byte{1, 2}, 1)},
		Symbols:  []api.Symbol{symbol("far", 0, 3, 0, api.SbWeak, api.SyNone), absolute("taken", 0x2134, api.SbGlobal)},
	}
	img := imageOf(t, objects(a, b), nil, conf(0x1000, "abs"))
	want := []byte{
		9, 0, 0, 0,
		0x05, 0x10, 0, 0, 0xff, 0xff, 0xff, 0xff, 0xee, 0xff, 0xff, 0xff,
		0x17, 0, 0, 0, 0xee, 0x22, 0, 0, 0, 0xee, 0xee, 0xff,
		0, 0, 0, 0, 1, 2, 0,
	}
	// far is at 0x1023, the field of its relocation at 0x1010.
	if len(img.Segments) != 1 || img.Segments[0].At != 0x1000 || img.Segments[0].Rights != 6 || !slices.Equal(img.Segments[0].B, want) {
		t.Errorf("%+v, want %v", img.Segments, want)
	}
	if img.Entry != 300 {
		t.Errorf("Entry %d", img.Entry)
	}
}

// P4.3: symbols, files and lines of an image.
func TestNames(t *testing.T) {
	a := api.Object{
		Sections: []api.Section{section("data", 3, 1, nil, 6), section("text", 5, 1, make([]byte, 10), 10), section("none", 3, 1, nil, 0)},
		Symbols: []api.Symbol{
			symbol("z", 1, 4, 2, api.SbLocal, api.SyFunc),
			symbol("main", 1, 4, 16, api.SbGlobal, api.SyFunc),
			symbol("weak", 0, 6, 0, api.SbWeak, api.SyData),
			imported("gone", api.SbWeak),
			absolute("abs", 0x1004, api.SbLocal),
		},
		Files: []string{"b", "a"},
		Lines: []api.Line{{Section: 0, Off: 1, File: 1, Line: 7}, {Section: 1, Off: 0, File: 0, Line: 1}, {Section: 1, Off: 3}, {Section: 1, Off: 12, File: 1, Line: 9}, {Section: 1, Off: 13, File: 0, Line: api.MaxLine}},
	}
	b := api.Object{
		Sections: []api.Section{section("text", 5, 4, nil, 5)},
		Symbols:  []api.Symbol{symbol("weak", 0, 0, 5, api.SbGlobal, api.SyNone), symbol("z", 0, 0, 1, api.SbLocal, api.SyNone)},
		Files:    []string{"c", "a"},
		Lines:    []api.Line{{Section: 0, Off: 4, File: 0, Line: 3}},
	}
	c := withSymbols(absolute("z", 0x1004, api.SbLocal))
	want := api.Image{
		Segments: []api.Segment{{At: 0x1000, Rights: 5, B: make([]byte, 25)}, {At: 0x1100, Rights: 3, B: make([]byte, 6)}},
		Entry:    0x1004,
		Symbols: []api.ImageSym{
			{Name: "abs", At: 0x1004, Local: true, Abs: true},
			{Name: "main", At: 0x1004, Size: 16, Kind: api.SyFunc},
			{Name: "z", At: 0x1004, Size: 2, Kind: api.SyFunc, Local: true},
			{Name: "z", At: 0x1004, Object: 2, Local: true, Abs: true},
			{Name: "weak", At: 0x1014, Size: 5, Object: 1},
			{Name: "z", At: 0x1014, Size: 1, Object: 1, Local: true},
			{Name: "weak", At: 0x1106, Kind: api.SyData},
		},
		Files: []string{"b", "a", "c"},
		Lines: []api.ImageLine{
			{At: 0x1000, N: 3, File: 0, Line: 1}, {At: 0x100c, N: 1, File: 1, Line: 9}, {At: 0x100d, N: 7, File: 0, Line: api.MaxLine},
			{At: 0x1018, N: 1, File: 2, Line: 3}, {At: 0x1101, N: 5, File: 1, Line: 7},
		},
	}
	if img := imageOf(t, objects(a, b, c), nil, conf(0x1000, "main")); !isEqual(img, want) {
		t.Errorf("%+v, want %+v", img, want)
	}
}

// P4.3: what is linked may be as great as it can be.
func TestGreatest(t *testing.T) {
	var l []api.Object
	for i := range api.MaxObjects {
		var o api.Object
		for k := range 7 {
			o.Sections = append(o.Sections, section(fmt.Sprintf("s%d", k), 1+k, 1, make([]byte, 2000), 1700))
		}
		for k := range api.MaxSymbols {
			o.Symbols = append(o.Symbols, symbol(fmt.Sprintf("x%d.%d", i, k), k%7, k, k, api.SbGlobal, api.SyNone))
		}
		for k := range api.MaxRelocs {
			o.Relocs = append(o.Relocs, reloc(k/400, k%400*4, api.RlWord, k%api.MaxSymbols, k))
		}
		for k := range api.MaxFiles {
			o.Files = append(o.Files, fmt.Sprintf("f%d.%d", i, k))
		}
		for k := range api.MaxLines {
			o.Lines = append(o.Lines, api.Line{Section: k / 1000, Off: k % 1000, File: k % api.MaxFiles, Line: 1 + k})
		}
		l = append(l, o)
	}
	img := imageOf(t, l, nil, conf(1<<32-7*74240, "x19.499"))
	if len(img.Segments) != 7 || len(img.Symbols) != api.MaxImageSym || len(img.Files) != 400 || len(img.Lines) != api.MaxImageLn {
		t.Errorf("%d segments, %d symbols, %d files, %d lines", len(img.Segments), len(img.Symbols), len(img.Files), len(img.Lines))
	}
	if err := link.Check(img); err != api.OK {
		t.Errorf("Check: %d", err)
	}
	last := img.Segments[6]
	if end := int(last.At) + len(last.B); end != 1<<32-240 {
		t.Errorf("the last segment ends at %x", end)
	}
}
