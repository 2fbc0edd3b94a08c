package link

import (
	"cmp"
	"iter"
	"slices"

	"candling/api"
)

// Pages returns the pages of an image.
func Pages(i api.Image) ([]api.Page, api.Errno) {
	if Check(i) != api.OK {
		return nil, api.ErrImage
	}
	var l []api.Page
	for p := range pagesOf(i.Segments) {
		l = append(l, p)
	}
	return l, api.OK
}

// pagesOf yields the pages that segments cover; bytes behind the end of a segment are 0.
func pagesOf(l []api.Segment) iter.Seq[api.Page] {
	return func(yield func(api.Page) bool) {
		for _, s := range l {
			for off := 0; off < len(s.B); off += api.PageSize {
				p := api.Page{N: (int(s.At) + off) / api.PageSize, Rights: s.Rights, B: make([]byte, api.PageSize)}
				copy(p.B, s.B[off:])
				if !yield(p) {
					return
				}
			}
		}
	}
}

// Find returns the address of a symbol.
func Find(i api.Image, name string) (uint32, api.Errno) {
	if Check(i) != api.OK {
		return 0, api.ErrImage
	}
	hasName := func(s api.ImageSym) bool { return s.Name == name }
	k := slices.IndexFunc(i.Symbols, func(s api.ImageSym) bool { return hasName(s) && !s.Local })
	if k < 0 {
		k = slices.IndexFunc(i.Symbols, hasName)
	}
	if k < 0 {
		return 0, api.ErrNone
	}
	return i.Symbols[k].At, api.OK
}

// SymbolAt returns the index of the symbol that covers an address.
func SymbolAt(i api.Image, at uint32) (int, bool) {
	if Check(i) != api.OK {
		return 0, false
	}
	best, found := 0, false
	for k, s := range i.Symbols {
		if covers(s, at) && (!found || isNearer(s, i.Symbols[best])) {
			best, found = k, true
		}
	}
	return best, found
}

func covers(s api.ImageSym, at uint32) bool {
	return !s.Abs && s.At <= at && int(at-s.At) < s.Size
}

// isNearer reports whether a symbol begins behind another one, or is shorter.
func isNearer(a, b api.ImageSym) bool {
	return cmp.Or(cmp.Compare(b.At, a.At), cmp.Compare(a.Size, b.Size)) < 0
}

// LineAt returns the source line of an address.
func LineAt(i api.Image, at uint32) (file string, line int, ok bool) {
	if Check(i) != api.OK {
		return "", 0, false
	}
	k := slices.IndexFunc(i.Lines, func(l api.ImageLine) bool { return l.At <= at && int(at-l.At) < l.N })
	if k < 0 {
		return "", 0, false
	}
	return i.Files[i.Lines[k].File], i.Lines[k].Line, true
}

// ByteAt returns the byte at an address.
func ByteAt(i api.Image, at uint32) (byte, bool) {
	if Check(i) != api.OK {
		return 0, false
	}
	for _, s := range i.Segments {
		if at >= s.At && int(at) < endOfSegment(s) {
			return s.B[at-s.At], true
		}
	}
	return 0, false
}
