package mem_test

import (
	"bytes"
	"fmt"
	"math"
	"math/rand/v2"
	"slices"
	"testing"

	"candling/api"
	"candling/mem"
)

const lastPage = 1<<24 - 1

func random(seed uint64) *rand.Rand { return rand.New(rand.NewPCG(seed, 5)) }

func pick[T any](r *rand.Rand, l ...T) T { return l[r.IntN(len(l))] }

// isOneIn is true once in n times.
func isOneIn(r *rand.Rand, n int) bool { return r.IntN(n) == 0 }

// memory is what a memory and its model have in common.
type memory interface {
	Save() []api.Page
	Map(page, n, rights int) api.Errno
	Unmap(page, n int) api.Errno
	Protect(page, n, rights int) api.Errno
	Rights(page int) (int, bool)
	Read(at uint32, n int) ([]byte, uint32, bool)
	Fetch(at uint32, n int) ([]byte, uint32, bool)
	Both(at uint32, n int) ([]byte, uint32, bool)
	Peek(at uint32, n int) ([]byte, uint32, bool)
	Write(at uint32, b []byte) (uint32, bool)
	Poke(at uint32, b []byte) (uint32, bool)
	Sum(at uint32, n int) (uint64, bool)
	Mark()
	Changed() []int
}

// act is a call; do makes it, and says what it returned (nil and empty slices look alike).
type act struct {
	name string
	do   func(memory) string
}

// randomPage is one of few pages, at both ends of the address space and in the middle, or seldom no page.
func randomPage(r *rand.Rand) int {
	if isOneIn(r, 40) {
		return pick(r, -1, lastPage+1, math.MinInt, math.MaxInt)
	}
	return pick(r, r.IntN(5), 1000+r.IntN(3), lastPage-r.IntN(4))
}

func randomCount(r *rand.Rand) int {
	if isOneIn(r, 40) {
		return pick(r, 0, -1, 2001, lastPage+1, math.MinInt, math.MaxInt)
	}
	return 1 + r.IntN(4)
}

// randomRights has most rights most of the time.
func randomRights(r *rand.Rand) int {
	if isOneIn(r, 40) {
		return pick(r, -1, 8, 9, math.MinInt, math.MaxInt)
	}
	return pick(r, 3, 7, r.IntN(8))
}

// randomAddress lies near a border of pages most of the time.
func randomAddress(r *rand.Rand) uint32 {
	page := pick(r, r.IntN(6), 1000+r.IntN(4), lastPage-r.IntN(4))
	return uint32(page)*256 + uint32(pick(r, 0, 1, -1, -3, -10, r.IntN(256)))
}

func randomLength(r *rand.Rand) int {
	if isOneIn(r, 60) {
		return pick(r, -1, 65537, math.MinInt, math.MaxInt)
	}
	return pick(r, 0, 1, 2, 4, 8, 16, r.IntN(20), r.IntN(300), r.IntN(1500))
}

func randomBytes(r *rand.Rand, n int) []byte {
	b := make([]byte, n)
	for i := range b {
		b[i] = byte(r.Uint32())
	}
	return b
}

// randomAct is any call.
func randomAct(r *rand.Rand) act {
	if isOneIn(r, 2) {
		return randomLook(r)
	}
	return randomChange(r)
}

// randomChange is a call that changes a memory.
func randomChange(r *rand.Rand) act {
	page, n, rights := randomPage(r), randomCount(r), randomRights(r)
	at, b := randomAddress(r), randomBytes(r, max(0, randomLength(r)%70000))
	switch r.IntN(12) {
	case 0, 1:
		return act{fmt.Sprintf("Map(%d, %d, %d)", page, n, rights), func(m memory) string {
			return fmt.Sprint(m.Map(page, n, rights))
		}}
	case 2:
		return act{fmt.Sprintf("Unmap(%d, %d)", page, n), func(m memory) string {
			return fmt.Sprint(m.Unmap(page, n))
		}}
	case 3, 4:
		return act{fmt.Sprintf("Protect(%d, %d, %d)", page, n, rights), func(m memory) string {
			return fmt.Sprint(m.Protect(page, n, rights))
		}}
	case 5:
		return act{"Mark", func(m memory) string { m.Mark(); return "" }}
	case 6, 7, 8:
		return act{fmt.Sprintf("Poke(%#x, %d bytes)", at, len(b)), func(m memory) string {
			return fmt.Sprint(m.Poke(at, b))
		}}
	}
	return act{fmt.Sprintf("Write(%#x, %d bytes)", at, len(b)), func(m memory) string {
		return fmt.Sprint(m.Write(at, b))
	}}
}

// randomLook is a call that changes nothing.
func randomLook(r *rand.Rand) act {
	at, n, page := randomAddress(r), randomLength(r), randomPage(r)
	l := []act{
		{"Read", func(m memory) string { return fmt.Sprint(m.Read(at, n)) }},
		{"Fetch", func(m memory) string { return fmt.Sprint(m.Fetch(at, n)) }},
		{"Both", func(m memory) string { return fmt.Sprint(m.Both(at, n)) }},
		{"Peek", func(m memory) string { return fmt.Sprint(m.Peek(at, n)) }},
		{"Sum", func(m memory) string { return fmt.Sprint(m.Sum(at, n)) }},
		{"Rights", func(m memory) string { return fmt.Sprint(m.Rights(page)) }},
		{"Changed", func(m memory) string { return fmt.Sprint(m.Changed()) }},
		{"Save", func(m memory) string { return fmt.Sprint(m.Save()) }},
	}
	x := pick(r, l...)
	x.name += fmt.Sprintf(" of %#x, %d or of page %d", at, n, page)
	return x
}

// randomMemory is a memory that many calls have changed.
func randomMemory(r *rand.Rand) *mem.Mem {
	m := mem.New()
	for range 10 + r.IntN(60) {
		randomChange(r).do(m)
	}
	return m
}

func page(n, rights int, b ...byte) api.Page {
	return api.Page{N: n, Rights: rights, B: append(slices.Clone(b), make([]byte, 256-len(b))...)}
}

// loaded is a memory of valid pages.
func loaded(t *testing.T, l ...api.Page) *mem.Mem {
	t.Helper()
	m, err := mem.Load(l)
	if err != api.OK || m == nil {
		t.Fatalf("Load: %v, %d", m, err)
	}
	return m
}

func isEqual(a, b []api.Page) bool {
	return slices.EqualFunc(a, b, func(x, y api.Page) bool { return x.N == y.N && x.Rights == y.Rights && bytes.Equal(x.B, y.B) })
}

// wantPages holds that a memory has pages, and nothing else.
func wantPages(t *testing.T, m *mem.Mem, want ...api.Page) {
	t.Helper()
	if got := m.Save(); !isEqual(got, want) {
		t.Errorf("pages %v, want %v", got, want)
	}
}

// example is the memory of the chapter's examples.
func example(t *testing.T) *mem.Mem {
	t.Helper()
	m := mem.New()
	if a, b := m.Map(1, 1, 3), m.Map(2, 1, 1); a != api.OK || b != api.OK {
		t.Fatalf("Map: %d, %d", a, b)
	}
	return m
}
