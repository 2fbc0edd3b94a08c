package obj

import (
	"bytes"
	"cmp"
	"math"

	"candling/api"
)

// SymbolAt returns the index of the symbol that covers an offset of a section.
func SymbolAt(o api.Object, section, off int) (int, bool) {
	// Symbols name sections that there are not: SecNone, SecAbs, and any number where the object is not valid.
	if !isIndex(section, o.Sections) {
		return 0, false
	}
	best, found := 0, false
	for i, s := range o.Symbols {
		if s.Section == section && covers(s, off) && (!found || isNearer(s, o.Symbols[best])) {
			best, found = i, true
		}
	}
	return best, found
}

func covers(s api.Symbol, off int) bool {
	start := int(s.Value)
	return start <= off && off-start < s.Size
}

// isNearer reports whether a symbol begins behind another one, or is shorter.
func isNearer(a, b api.Symbol) bool {
	return cmp.Or(cmp.Compare(b.Value, a.Value), cmp.Compare(a.Size, b.Size)) < 0
}

// Apply returns bytes in which the field of a relocation at off has its value, for a symbol at s and a field at p.
func Apply(b []byte, off, kind int, s uint32, add int, p uint32) ([]byte, api.Errno) {
	if !isRelocKind(kind) || !isAddend(add) || !isField(b, off, kind) {
		return nil, api.ErrArg
	}
	value := int(s) + add
	if !isInField(value, kind) {
		return nil, api.ErrRange
	}
	switch kind {
	case api.RlDiff:
		value -= int(p)
	case api.RlPage:
		value = int(uint32(value) / api.PageSize)
	}
	c := bytes.Clone(b)
	end := off + fieldSize(kind)
	putNumber(c[off:end:end], value)
	return c, api.OK
}

// isInField reports whether the sum of a symbol's address and the addend fits the field of a relocation.
func isInField(sum, kind int) bool {
	switch kind {
	case api.RlHalf:
		return isWithin(sum, math.MinInt16, math.MaxUint16)
	case api.RlByte:
		return isWithin(sum, math.MinInt8, math.MaxUint8)
	}
	return true
}

// putNumber fills a field with the lowest bytes of a number, the lowest one first.
func putNumber(field []byte, n int) {
	for i := range field {
		field[i] = byte(n >> (8 * i))
	}
}
