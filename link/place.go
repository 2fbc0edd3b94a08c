package link

import "candling/api"

// rights is one more than the greatest Rights of a section.
const rights = 8

// segmentOrder returns the rights of segments in the order in which they stand.
func segmentOrder() []int { return []int{5, 1, 3, 7, 2, 4, 6} }

// layout is where things stand: the sections of each object, and the segment of each Rights, from its start up to its end. (An end can be 2^32, which is no address.)
type layout struct {
	at          [][]int
	start, stop [rights]int
}

// placed places the sections of objects from an address on; if they do not fit, linking ends.
func placed(l []api.Object, base uint32) layout {
	must(base%api.PageSize == 0, api.ErrArg, "")
	p := layout{at: make([][]int, len(l))}
	for i, o := range l {
		p.at[i] = make([]int, len(o.Sections))
	}
	end, size := int(base), 0
	for _, r := range segmentOrder() {
		p.start[r] = roundUp(end, api.PageSize)
		end = p.segment(l, r)
		p.stop[r] = end
		size += end - p.start[r]
		must(end <= api.MaxSpace && size <= api.MaxImage, api.ErrPlace, "")
	}
	return p
}

// segment places the sections with some rights, and returns where they end.
func (p *layout) segment(l []api.Object, r int) int {
	end := p.start[r]
	for i, o := range l {
		for j, s := range o.Sections {
			if s.Rights == r {
				p.at[i][j] = roundUp(end, s.Align)
				end = p.at[i][j] + len(s.B) + s.Zero
			}
		}
	}
	return end
}

// roundUp returns the first multiple of a power of two that is not below n.
func roundUp(n, power int) int { return (n + power - 1) &^ (power - 1) }

// addresses returns where the sections of each object stand.
func (p layout) addresses() [][]uint32 {
	l := make([][]uint32, len(p.at))
	for i, at := range p.at {
		for _, x := range at {
			l[i] = append(l[i], uint32(x))
		}
	}
	return l
}
