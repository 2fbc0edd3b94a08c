package mem

import (
	"iter"
	"maps"
	"slices"

	"candling/api"
)

// marks are the pages of a memory that have changed.
type marks struct{ changed map[int]bool }

// touch says that a page has changed.
func (k *marks) touch(page int) {
	if k.changed == nil {
		k.changed = map[int]bool{}
	}
	k.changed[page] = true
}

// forget says that none has.
func (k *marks) forget() { clear(k.changed) }

func (k *marks) copied() marks { return marks{maps.Clone(k.changed)} }

// Mark forgets which pages have changed.
func (m *Mem) Mark() {
	if m != nil {
		m.forget()
	}
}

// Changed returns the numbers of the pages that have changed since Mark, increasing.
func (m *Mem) Changed() []int {
	if m == nil {
		return nil
	}
	return slices.Sorted(maps.Keys(m.changed))
}

// Diff returns where two memories differ.
func Diff(a, b *Mem) []api.Span {
	var l []api.Span
	end := -1
	for at := range differences(a, b) {
		if at != end {
			l = append(l, api.Span{At: uint32(at)})
		}
		l[len(l)-1].N++
		end = at + 1
	}
	return l
}

// differences yields the addresses at which two memories differ, increasing.
func differences(a, b *Mem) iter.Seq[int] {
	return func(yield func(int) bool) {
		for _, n := range numbersOf(a, b) {
			x, inA := a.all()[n]
			y, inB := b.all()[n]
			for off := range api.PageSize {
				isSame := inA && inB && x.b[off] == y.b[off]
				if !isSame && !yield(n*api.PageSize+off) {
					return
				}
			}
		}
	}
}
