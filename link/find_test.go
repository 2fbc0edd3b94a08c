package link_test

import (
	"bytes"
	"math"
	"slices"
	"testing"

	"candling/api"
	"candling/link"
)

// P4.1: the pages of an image.
func TestPages(t *testing.T) {
	i := sample()
	i.Segments[2] = api.Segment{At: 1<<32 - 512, Rights: 7, B: bytes.Repeat([]byte{7}, 512)}
	i.Lines = i.Lines[:3]
	i.Segments[1].B[255], i.Segments[1].B[256] = 3, 4
	padded := func(b ...byte) []byte { return append(b, make([]byte, 256-len(b))...) }
	want := []api.Page{
		{N: 0x10, Rights: 5, B: padded([]byte("0123456789")...)},
		{N: 0x11, Rights: 3, B: append(make([]byte, 255), 3)},
		{N: 0x12, Rights: 3, B: padded(4)},
		{N: 1<<24 - 2, Rights: 7, B: bytes.Repeat([]byte{7}, 256)},
		{N: 1<<24 - 1, Rights: 7, B: bytes.Repeat([]byte{7}, 256)},
	}
	got, err := link.Pages(i)
	isSame := func(a, b api.Page) bool { return a.N == b.N && a.Rights == b.Rights && bytes.Equal(a.B, b.B) }
	if err != api.OK || !slices.EqualFunc(got, want, isSame) {
		t.Errorf("%v, %d, want %v", got, err, want)
	}
	for _, p := range got {
		clear(p.B)
	}
	if i.Segments[0].B[0] != '0' || i.Segments[2].B[256] != 7 {
		t.Error("a change of a page has changed the image")
	}
	if l, err := link.Pages(api.Image{}); err != api.OK || len(l) > 0 {
		t.Errorf("of no segments: %v, %d", l, err)
	}
}

// P4.1: the address of a name.
func TestFind(t *testing.T) {
	i := sample()
	i.Symbols = []api.ImageSym{
		{Name: "a", At: 1, Local: true},
		{Name: "a", At: 2, Object: 1},
		{Name: "a", At: 3, Object: 2},
		{Name: "b", At: 4, Local: true},
		{Name: "b", At: 5, Local: true},
		{Name: "c", At: 6, Abs: true},
		{Name: "d", At: 7, Local: true, Abs: true},
		{Name: "a", At: 8, Local: true},
	}
	for _, c := range []struct {
		name string
		want uint32
		err  api.Errno
	}{
		{"a", 2, api.OK}, {"b", 4, api.OK}, {"c", 6, api.OK}, {"d", 7, api.OK},
		{"e", 0, api.ErrNone}, {"", 0, api.ErrNone}, {"A", 0, api.ErrNone}, {"a ", 0, api.ErrNone},
	} {
		if at, err := link.Find(i, c.name); at != c.want || err != c.err {
			t.Errorf("Find of %q: %d, %d", c.name, at, err)
		}
	}
}

// P4.1: the symbol of an address.
func TestSymbolAt(t *testing.T) {
	i := api.Image{Symbols: []api.ImageSym{
		{Name: "low", At: 0, Size: 1},
		{Name: "whole", At: 0x100, Size: 100},
		{Name: "abs", At: 0x104, Size: 4, Abs: true},
		{Name: "long", At: 0x10a, Size: 20},
		{Name: "short", At: 0x10a, Size: 5},
		{Name: "short", At: 0x10a, Size: 5, Object: 1},
		{Name: "tall", At: 0x10a, Size: 6},
		{Name: "mark", At: 0x10c},
		{Name: "one", At: 0x10d, Size: 1, Local: true},
		{Name: "top", At: math.MaxUint32 - 1, Size: 65536},
	}}
	for _, c := range []struct {
		at    uint32
		want  int
		found bool
	}{
		{0, 0, true}, {1, 0, false}, {0xff, 0, false}, {0x100, 1, true}, {0x104, 1, true}, {0x109, 1, true},
		{0x10a, 4, true}, {0x10c, 4, true}, {0x10d, 8, true}, {0x10e, 4, true}, {0x10f, 6, true}, {0x110, 3, true}, {0x11d, 3, true}, {0x11e, 1, true},
		{0x163, 1, true}, {0x164, 0, false}, {math.MaxUint32 - 2, 0, false}, {math.MaxUint32 - 1, 9, true}, {math.MaxUint32, 9, true},
	} {
		if k, found := link.SymbolAt(i, c.at); k != c.want || found != c.found {
			t.Errorf("SymbolAt of %#x: %d, %v, want %d, %v", c.at, k, found, c.want, c.found)
		}
	}
}

// P4.1: the line of an address, and its byte.
func TestLineAtAndByteAt(t *testing.T) {
	i := sample()
	i.Segments = append(i.Segments, api.Segment{At: 1<<32 - 256, Rights: 7, B: append(make([]byte, 255), 9)})
	i.Lines = append(i.Lines, api.ImageLine{At: math.MaxUint32, N: 1, File: 0, Line: 5})
	for _, c := range []struct {
		at    uint32
		file  string
		line  int
		value byte
		found bool
	}{
		{0x1000, "a.s", 1, '0', true}, {0x1003, "a.s", 1, '3', true}, {0x1004, "b.s", api.MaxLine, '4', true}, {0x1009, "b.s", api.MaxLine, '9', true},
		{0x1100, "", 0, 0, true}, {0x1101, "a.s", 2, 0, true}, {0x1200, "a.s", 2, 0, true}, {0x10000, "", 0, 'a', true}, {0x10001, "a.s", 2, 'b', true}, {0x10002, "", 0, 'c', true},
		{math.MaxUint32 - 1, "", 0, 0, true}, {math.MaxUint32, "b.s", 5, 9, true},
		{0, "", 0, 0, false}, {0xfff, "", 0, 0, false}, {0x100a, "", 0, 0, false}, {0x10ff, "", 0, 0, false}, {0x1201, "", 0, 0, false}, {0x10003, "", 0, 0, false}, {1<<32 - 257, "", 0, 0, false},
	} {
		file, line, ok := link.LineAt(i, c.at)
		if file != c.file || line != c.line || ok != (c.line > 0) {
			t.Errorf("LineAt of %#x: %q, %d, %v", c.at, file, line, ok)
		}
		b, found := link.ByteAt(i, c.at)
		if b != c.value || found != c.found {
			t.Errorf("ByteAt of %#x: %d, %v", c.at, b, found)
		}
	}
}
