package cpu_test

import (
	"math"
	"math/rand/v2"
	"slices"
	"testing"

	"candling/api"
	"candling/cpu"
	"candling/isa"
	"candling/mem"
)

const lastPage = 1<<24 - 1

func random(seed uint64) *rand.Rand { return rand.New(rand.NewPCG(seed, 7)) }

func pick[T any](r *rand.Rand, l ...T) T { return l[r.IntN(len(l))] }

// isOneIn is true once in n times.
func isOneIn(r *rand.Rand, n int) bool { return r.IntN(n) == 0 }

// operations returns all operations, by their numbers.
func operations() []int {
	var l []int
	for op := api.OpNop; op <= api.MaxOp; op++ {
		if _, isOne := isa.Name(op); isOne {
			l = append(l, op)
		}
	}
	return l
}

// words returns words at which sums, shifts and signs are special.
func words() []uint32 {
	l := []uint32{0, 1, 2, 3, 31, 32, 33, 127, 128, 255, 256, 0x7fff, 0x8000, 0xffff, 0x10000, 0x12345678, 0x7ffffffe, 0x7fffffff}
	for _, w := range slices.Clone(l) {
		l = append(l, -w, ^w)
	}
	return l
}

// loaded is a memory of valid pages.
func loaded(t *testing.T, l ...api.Page) *mem.Mem {
	t.Helper()
	m, err := mem.Load(l)
	if err != api.OK {
		t.Fatalf("Load: %d", err)
	}
	return m
}

func page(n, rights int, b ...byte) api.Page {
	return api.Page{N: n, Rights: rights, B: append(slices.Clone(b), make([]byte, 256-len(b))...)}
}

// example is the memory of the chapter's examples, with instructions from the address 256 on.
func example(t *testing.T, l ...api.Insn) *mem.Mem {
	t.Helper()
	m := loaded(t, page(1, 7), page(2, 3))
	put(t, m, 256, l...)
	return m
}

// put writes instructions to a memory.
func put(t *testing.T, m *mem.Mem, at uint32, l ...api.Insn) {
	t.Helper()
	for _, x := range l {
		b := bytesOf(t, x)
		if bad, ok := m.Poke(at, b); !ok {
			t.Fatalf("Poke: %#x", bad)
		}
		at += uint32(len(b))
	}
}

func bytesOf(t *testing.T, x api.Insn) []byte {
	t.Helper()
	b, err := isa.Encode(x)
	if err != api.OK {
		t.Fatalf("%v is no instruction: %d", x, err)
	}
	return b
}

// parsed is the instruction with a text.
func parsed(t *testing.T, s string) api.Insn {
	t.Helper()
	x, err := isa.Parse(s)
	if err != api.OK {
		t.Fatalf("%s: %d", s, err)
	}
	return x
}

// wordAt is the word at an address that is mapped.
func wordAt(t *testing.T, m *mem.Mem, at uint32) uint32 {
	t.Helper()
	b, bad, ok := m.Peek(at, 4)
	if !ok {
		t.Fatalf("Peek: %#x", bad)
	}
	return uint32(b[0]) + uint32(b[1])<<8 + uint32(b[2])<<16 + uint32(b[3])<<24
}

// state is a CPU and a memory.
type state struct {
	c api.CPU
	m *mem.Mem
}

func (s state) copied() state { return state{s.c, s.m.Clone()} }

// outcome is what Step returns, and the memory behind it.
type outcome struct {
	state
	trap   api.Trap
	events []api.Event
}

// stepped carries out the instruction at PC in a copy of the memory, of which no page has changed at first.
func (s state) stepped() outcome {
	m := s.m.Clone()
	m.Mark()
	c, trap, events := cpu.Step(s.c, m)
	return outcome{state{c, m}, trap, events}
}

// isFault reports whether the trap leaves everything as it was.
func (o outcome) isFault() bool {
	return o.trap.Kind != api.TrNone && o.trap.Kind != api.TrSys && o.trap.Kind != api.TrReq
}

// isSame reports whether both are the same, pages that have changed included.
func (o outcome) isSame(p outcome) bool {
	return o.c == p.c && o.trap == p.trap && slices.Equal(o.events, p.events) && mem.Same(o.m, p.m) && slices.Equal(o.m.Changed(), p.m.Changed())
}

// randomInsn is any instruction of an operation; its registers are often the same, or SP.
func randomInsn(t *testing.T, r *rand.Rand, op int) api.Insn {
	t.Helper()
	kinds, _ := isa.Fields(op)
	x := api.Insn{Op: op}
	register := func() int { return pick(r, r.IntN(16), r.IntN(16), r.IntN(3), api.SP) }
	for _, kind := range kinds {
		switch kind {
		case api.FdRA:
			x.A = register()
		case api.FdRB, api.FdMemK, api.FdMemI:
			x.B = register()
		case api.FdRC:
			x.C = register()
		case api.FdVA:
			x.A = pick(r, r.IntN(8), 0)
		case api.FdVB:
			x.B = pick(r, r.IntN(8), 0)
		case api.FdVC:
			x.C = pick(r, r.IntN(8), 0)
		case api.FdCond:
			x.D = r.IntN(16)
		case api.FdLane:
			x.D = r.IntN(3)
		case api.FdExt, api.FdWord, api.FdScale:
			x.D = r.IntN(4)
		}
		switch kind {
		case api.FdK, api.FdMemK:
			x.K = pick(r, r.IntN(256)-128, r.IntN(9)-4)
		case api.FdI, api.FdMemI:
			x.I = pick(r, randomAddress(r), randomWord(r))
		}
	}
	if isa.Check(x) != api.OK {
		t.Fatalf("%v is no instruction", x)
	}
	return x
}

// randomAddress lies near a border of pages most of the time.
func randomAddress(r *rand.Rand) uint32 {
	n := pick(r, r.IntN(10), r.IntN(3), lastPage, lastPage-1)
	return uint32(n)*256 + uint32(pick(r, 0, -1, -3, -4, -8, -15, 4*r.IntN(64), r.IntN(256)))
}

func randomWord(r *rand.Rand) uint32 {
	return pick(r, r.Uint32(), uint32(r.IntN(3)), pick(r, words()...), randomAddress(r))
}

// randomMemory has pages with all rights, at both ends of the address space.
func randomMemory(t *testing.T, r *rand.Rand) *mem.Mem {
	t.Helper()
	var l []api.Page
	for n, rights := range []int{7, 7, 3, 1, 2, 5, 4, 0, 6, 3} {
		l = append(l, page(n, rights))
	}
	l = append(l, page(lastPage-1, 3), page(lastPage, 7))
	for _, p := range l {
		for i := range p.B {
			p.B[i] = byte(pick(r, r.IntN(256), r.IntN(90)))
		}
	}
	return loaded(t, l...)
}

// randomCPU has a PC at a multiple of 4 most of the time.
func randomCPU(r *rand.Rand) api.CPU {
	c := api.CPU{F: r.IntN(16)}
	for i := range c.R {
		c.R[i] = randomWord(r)
	}
	for i := range c.V {
		for k := range c.V[i] {
			c.V[i][k] = pick(r, r.Uint32(), c.V[0][k], pick(r, words()...))
		}
	}
	c.PC = pick(r, 256*uint32(pick(r, 0, 1, 1, 5, 6, 8, lastPage))+4*uint32(r.IntN(64)), randomAddress(r)&^3)
	if isOneIn(r, 50) {
		c.PC = randomAddress(r)
	}
	return c
}

// randomState has an instruction at PC most of the time; if it needs memory, the place is one of some pages most of the time.
func randomState(t *testing.T, r *rand.Rand, op int) (state, api.Insn) {
	t.Helper()
	s := state{randomCPU(r), randomMemory(t, r)}
	if isOneIn(r, 2) {
		s.c.F |= pick(r, 0, 16, math.MinInt)
	}
	x := randomInsn(t, r, op)
	if !isOneIn(r, 20) {
		s.m.Poke(s.c.PC, bytesOf(t, x))
	}
	if isOneIn(r, 5) {
		return s, x
	}
	at := randomAddress(r)
	if isOneIn(r, 2) {
		at = uint32(pick(r, 256, 512, 2304, lastPage*256)) + uint32(r.IntN(256))
	}
	switch op {
	case api.OpPop, api.OpRet:
		s.c.R[api.SP] = at
	case api.OpPush, api.OpCall, api.OpCallR:
		s.c.R[api.SP] = at + 4
	default:
		s.c.R[x.B] = at - uint32(x.K) - x.I
	}
	if b, _, ok := s.m.Peek(at, 4); ok && op == api.OpCas && x.A != x.B && isOneIn(r, 2) {
		s.c.R[x.A] = uint32(b[0]) + uint32(b[1])<<8 + uint32(b[2])<<16 + uint32(b[3])<<24
	}
	return s, x
}
