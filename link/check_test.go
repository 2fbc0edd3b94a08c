package link_test

import (
	"fmt"
	"math"
	"strings"
	"testing"

	"candling/api"
	"candling/link"
)

// sample is a valid image that has something of everything.
func sample() api.Image {
	return api.Image{
		Segments: []api.Segment{
			{At: 0x1000, Rights: 5, B: []byte("0123456789")},
			{At: 0x1100, Rights: 3, B: make([]byte, 257)},
			{At: 0x10000, Rights: 1, B: []byte("abc")},
		},
		Entry: 0x1004,
		Symbols: []api.ImageSym{
			{Name: "abs", At: 1, Local: true, Abs: true},
			{Name: "abs", At: 1, Object: 3, Abs: true, Kind: 2},
			{Name: "all", At: 0x1000, Size: 10, Kind: 1, Object: 2},
			{Name: "main", At: 0x1004, Size: 4, Kind: 1},
			{Name: "same", At: 0x1004, Size: 2, Kind: 1, Local: true},
			{Name: "same", At: 0x1004, Size: 1, Kind: 1, Object: 1},
			{Name: "same", At: 0x1004, Size: 1, Kind: 1, Object: 1},
			{Name: "wide", At: 0x1100, Size: 65536, Kind: 2, Object: 40},
			{Name: "abs", At: math.MaxUint32, Size: 9},
		},
		Files: []string{"b.s", "a.s"},
		Lines: []api.ImageLine{
			{At: 0x1000, N: 4, File: 1, Line: 1},
			{At: 0x1004, N: 6, File: 0, Line: api.MaxLine},
			{At: 0x1101, N: 256, File: 1, Line: 2},
			{At: 0x10001, N: 1, File: 1, Line: 2},
		},
	}
}

// change is a change of the sample.
type change struct {
	name string
	make func(*api.Image)
}

func changed(c change) api.Image {
	i := sample()
	c.make(&i)
	return i
}

// harmless are changes that leave the sample valid.
func harmless() []change {
	l := []change{
		{"nothing", func(i *api.Image) {}},
		{"all gone", func(i *api.Image) { *i = api.Image{} }},
		{"empty slices", func(i *api.Image) { *i = filled(api.Image{}) }},
		{"entry anywhere", func(i *api.Image) { i.Entry = math.MaxUint32 }},
		{"8 segments", func(i *api.Image) { putSegments(i, 8) }},
		{"10000 symbols", func(i *api.Image) { putSymbols(i, 10000) }},
		{"400 files", func(i *api.Image) { putFiles(i, 400) }},
		{"80000 lines", func(i *api.Image) { putLines(i, 80000) }},
		{"524288 bytes", func(i *api.Image) { i.Segments[2].B = make([]byte, 524288-267) }},
		{"up to the end", func(i *api.Image) {
			i.Segments[2] = api.Segment{At: 1<<32 - 256, Rights: 7, B: make([]byte, 256)}
			i.Lines[3] = api.ImageLine{At: math.MaxUint32, N: 1, Line: 1}
		}},
		{"from the beginning", func(i *api.Image) { i.Segments[0].At, i.Lines = 0, nil }},
		{"segments of one kind", func(i *api.Image) { i.Segments[1].Rights = 5 }},
		{"segments of full pages", func(i *api.Image) { i.Segments[0].B = make([]byte, 256) }},
		{"no lines", func(i *api.Image) { i.Lines = nil }},
		{"no lines, files", func(i *api.Image) { i.Lines, i.Files = nil, nil }},
		{"no symbols", func(i *api.Image) { i.Symbols = nil }},
		{"no segments, lines", func(i *api.Image) { i.Segments, i.Lines = nil, nil }},
		{"line over all of a segment", func(i *api.Image) { i.Lines[2] = api.ImageLine{At: 0x1100, N: 257, Line: 1} }},
		{"file name of 100 bytes", func(i *api.Image) { i.Files[0] = strings.Repeat("!", 50) + strings.Repeat("~", 50) }},
		{"file name of 1 byte", func(i *api.Image) { i.Files[0] = "0" }},
	}
	for _, name := range []string{"a", "z", "A", "Z", "_", ".", "a0", "a9", "_$", "..", "a.b_c$1", strings.Repeat("a", 40)} {
		l = append(l, change{"symbol " + name, func(i *api.Image) { i.Symbols[2].Name = name }})
	}
	for rights := 1; rights <= 7; rights++ {
		l = append(l, change{"rights", func(i *api.Image) { i.Segments[1].Rights = rights }})
	}
	return l
}

// harmful are changes that leave it invalid.
func harmful() []change {
	l := []change{
		{"9 segments", func(i *api.Image) { putSegments(i, 9) }},
		{"10001 symbols", func(i *api.Image) { putSymbols(i, 10001) }},
		{"401 files", func(i *api.Image) { putFiles(i, 401) }},
		{"80001 lines", func(i *api.Image) { putLines(i, 80001) }},
		{"524289 bytes", func(i *api.Image) { i.Segments[2].B = make([]byte, 524288-266) }},
		{"524289 bytes of one segment", func(i *api.Image) { i.Segments[2].B = make([]byte, 524289) }},
		{"no bytes", func(i *api.Image) { i.Segments[2].B, i.Lines = nil, i.Lines[:3] }},
		{"no page", func(i *api.Image) { i.Segments[2].At-- }},
		{"half a page", func(i *api.Image) { i.Segments[2].At += 128 }},
		{"behind the end", func(i *api.Image) {
			i.Segments[2], i.Lines = api.Segment{At: 1<<32 - 256, Rights: 7, B: make([]byte, 257)}, nil
		}},
		{"segments out of order", func(i *api.Image) { i.Segments[2].At, i.Lines = 0x800, nil }},
		{"segments at one address", func(i *api.Image) { i.Segments[1].At, i.Lines = 0x1000, nil }},
		{"segments that overlap", func(i *api.Image) { i.Segments[2].At, i.Lines = 0x1200, nil }},
		{"segments with a common page", func(i *api.Image) { i.Segments[0].B = make([]byte, 257) }},

		{"symbols out of order", func(i *api.Image) { i.Symbols[2].At = 0x1005 }},
		{"names out of order", func(i *api.Image) { i.Symbols[3].Name = "t" }},
		{"objects out of order", func(i *api.Image) { i.Symbols[4].Object = 2 }},
		{"object of the first", func(i *api.Image) { i.Symbols[0].Object = 4 }},

		{"files of one name", func(i *api.Image) { i.Files[1] = "b.s" }},
		{"line of no file", func(i *api.Image) { i.Files = i.Files[:1] }},
		{"lines without files", func(i *api.Image) { i.Files = nil }},
		{"lines out of order", func(i *api.Image) { i.Lines[0], i.Lines[1] = i.Lines[1], i.Lines[0] }},
		{"lines that overlap", func(i *api.Image) { i.Lines[0].N = 5 }},
		{"lines at one address", func(i *api.Image) { i.Lines[1].At, i.Lines[1].N = 0x1000, 4 }},
		{"line behind its segment", func(i *api.Image) { i.Lines[1].N = 7 }},
		{"line over two segments", func(i *api.Image) { i.Lines[1].N = 0x100 }},
		{"line ahead of all segments", func(i *api.Image) { i.Lines[0].At = 0xfff }},
		{"line between segments", func(i *api.Image) { i.Lines[2] = api.ImageLine{At: 0x1201, N: 1, Line: 1} }},
		{"line of no segment", func(i *api.Image) { i.Segments = i.Segments[:2] }},
	}
	for _, name := range []string{"", "0", "9a", "$", "a b", "a-", "a/", "a:", "a;", "a@", "a[", "a`", "a{", "@", "[", "`", "{", "/", "-", "é", "a\x00", "a\xff", strings.Repeat("a", 41)} {
		l = append(l, change{"symbol " + name, func(i *api.Image) { i.Symbols[2].Name = name }})
	}
	for _, name := range []string{"", " ", "a b", "a\n", "\x7f", "\xe9", "\x00", strings.Repeat("a", 101)} {
		l = append(l, change{"file " + name, func(i *api.Image) { i.Files[1] = name }})
	}
	for _, n := range []int{math.MinInt, -1, 1 << 32, math.MaxInt} {
		l = append(l, numbers(n)...)
	}
	return append(l,
		change{"rights 0", func(i *api.Image) { i.Segments[1].Rights = 0 }},
		change{"rights 8", func(i *api.Image) { i.Segments[1].Rights = 8 }},
		change{"size 65537", func(i *api.Image) { i.Symbols[7].Size = 65537 }},
		change{"kind 3", func(i *api.Image) { i.Symbols[7].Kind = 3 }},
		change{"object 41", func(i *api.Image) { i.Symbols[7].Object = 41 }},
		change{"N 0", func(i *api.Image) { i.Lines[3].N = 0 }},
		change{"file 2", func(i *api.Image) { i.Lines[3].File = 2 }},
		change{"line 0", func(i *api.Image) { i.Lines[3].Line = 0 }},
		change{"line 1048577", func(i *api.Image) { i.Lines[3].Line = api.MaxLine + 1 }},
	)
}

// numbers puts a number that fits nowhere everywhere, one place at a time.
func numbers(n int) []change {
	return []change{
		{"Rights", func(i *api.Image) { i.Segments[0].Rights = n }},
		{"Size", func(i *api.Image) { i.Symbols[8].Size = n }},
		{"Kind", func(i *api.Image) { i.Symbols[8].Kind = n }},
		{"Object", func(i *api.Image) { i.Symbols[8].Object = n }},
		{"N", func(i *api.Image) { i.Lines[3].N = n }},
		{"N of the first", func(i *api.Image) { i.Lines[0].N = n }},
		{"File", func(i *api.Image) { i.Lines[3].File = n }},
		{"Line", func(i *api.Image) { i.Lines[3].Line = n }},
	}
}

// putSegments brings the number of segments to n.
func putSegments(i *api.Image, n int) {
	for len(i.Segments) < n {
		i.Segments = append(i.Segments, api.Segment{At: uint32(0x10000 + 256*len(i.Segments)), Rights: 7, B: []byte{1}})
	}
}

func putSymbols(i *api.Image, n int) {
	for len(i.Symbols) < n {
		i.Symbols = append(i.Symbols, api.ImageSym{Name: "last", At: math.MaxUint32})
	}
}

func putFiles(i *api.Image, n int) {
	for len(i.Files) < n {
		i.Files = append(i.Files, fmt.Sprintf("file%d", len(i.Files)))
	}
}

// putLines puts n lines into a last segment.
func putLines(i *api.Image, n int) {
	i.Segments = append(i.Segments, api.Segment{At: 0x20000, Rights: 1, B: make([]byte, 100000)})
	for len(i.Lines) < n {
		i.Lines = append(i.Lines, api.ImageLine{At: uint32(0x20000 + len(i.Lines)), N: 1, Line: 1})
	}
}

// P4.1: what is valid.
func TestCheck(t *testing.T) {
	for _, c := range harmless() {
		if err := link.Check(changed(c)); err != api.OK {
			t.Errorf("%q: %d", c.name, err)
		}
	}
	for _, c := range harmful() {
		if err := link.Check(changed(c)); err != api.ErrImage {
			t.Errorf("%q: %d", c.name, err)
		}
	}
}

// P4.1: in what is not valid nothing is found.
func TestInvalidImages(t *testing.T) {
	for _, c := range harmful() {
		i := changed(c)
		if l, err := link.Pages(i); err != api.ErrImage || len(l) > 0 {
			t.Errorf("Pages, %q: %v, %d", c.name, l, err)
		}
		for _, name := range []string{"main", "nowhere"} {
			if at, err := link.Find(i, name); err != api.ErrImage || at != 0 {
				t.Errorf("Find, %q: %d, %d", c.name, at, err)
			}
		}
		for _, at := range []uint32{0x1000, 0x1005, 0x1102, 0x10001, 0} {
			if k, ok := link.SymbolAt(i, at); k != 0 || ok {
				t.Errorf("SymbolAt, %q: %d, %v", c.name, k, ok)
			}
			if file, line, ok := link.LineAt(i, at); file != "" || line != 0 || ok {
				t.Errorf("LineAt, %q: %q, %d, %v", c.name, file, line, ok)
			}
			if b, ok := link.ByteAt(i, at); b != 0 || ok {
				t.Errorf("ByteAt, %q: %d, %v", c.name, b, ok)
			}
		}
	}
}
