package mem

import (
	"sync/atomic"

	"candling/api"
)

// pageCount is how many pages the address space has.
const pageCount = api.MaxSpace / api.PageSize

// Rights of pages, which are those of package api, and what is asked of pages.
const (
	readable = 1 << iota
	writable
	executable

	mapped     = 0 // no right is asked for
	changeable = readable | writable
	allRights  = readable | writable | executable
)

// entry is a page that is mapped.
type entry struct {
	rights int
	*frame
}

// frame is the bytes of a page. Once it is shared, clones may have it too, and its bytes stay as they are.
type frame struct {
	b [api.PageSize]byte
	// It is atomic because memories are independent: a goroutine may write to one while another one clones its clone.
	shared atomic.Bool
}

func isPage(p api.Page) bool {
	return arePages(p.N, 1) && areRights(p.Rights) && len(p.B) == api.PageSize
}

// arePages reports whether there are n pages from a number on, at least one.
func arePages(page, n int) bool {
	return page >= 0 && n >= 1 && n <= pageCount-page
}

func areRights(rights int) bool { return rights >= 0 && rights <= allRights }

// Map maps pages, with zeros.
func (m *Mem) Map(page, n, rights int) api.Errno {
	switch {
	case m == nil:
		return api.ErrState
	case !arePages(page, n) || !areRights(rights):
		return api.ErrArg
	case m.countMapped(page, n) > 0:
		return api.ErrState
	case n > api.MaxPages-len(m.pages):
		return api.ErrLimit
	}
	if m.pages == nil {
		m.pages = map[int]entry{}
	}
	for k := page; k < page+n; k++ {
		m.pages[k] = entry{rights: rights, frame: &frame{}}
		m.touch(k)
	}
	return api.OK
}

// Unmap unmaps pages.
func (m *Mem) Unmap(page, n int) api.Errno {
	switch {
	case m == nil:
		return api.ErrState
	case !arePages(page, n):
		return api.ErrArg
	case m.countMapped(page, n) < n:
		return api.ErrState
	}
	for k := page; k < page+n; k++ {
		delete(m.pages, k)
		m.touch(k)
	}
	return api.OK
}

// Protect gives pages other rights.
func (m *Mem) Protect(page, n, rights int) api.Errno {
	switch {
	case m == nil:
		return api.ErrState
	case !arePages(page, n) || !areRights(rights):
		return api.ErrArg
	case m.countMapped(page, n) < n:
		return api.ErrState
	}
	for k := page; k < page+n; k++ {
		m.pages[k] = entry{rights: rights, frame: m.pages[k].frame}
		m.touch(k)
	}
	return api.OK
}

// Rights returns the rights of a page, and whether it is mapped.
func (m *Mem) Rights(page int) (int, bool) {
	e, isMapped := m.all()[page]
	return e.rights, isMapped
}

// countMapped returns how many of n pages from a number on are mapped.
func (m *Mem) countMapped(page, n int) int {
	count := 0
	// There may be far more numbers asked for than there can be pages.
	for k := range m.pages {
		if k >= page && k < page+n {
			count++
		}
	}
	return count
}
