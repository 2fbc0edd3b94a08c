package cpu_test

import (
	"math"
	"slices"
	"testing"

	"candling/api"
	"candling/cpu"
	"candling/isa"
	"candling/mem"
)

// event is an event of the instruction at 256.
func event(kind int, a, b uint32, n int) api.Event {
	return api.Event{Kind: kind, PC: 256, A: a, B: b, N: n}
}

// rowCPU is the CPU with which the rows of tables begin: r1 and r2 are numbers, r3 is an address, v1 and v2 are vectors.
func rowCPU() api.CPU {
	c := api.CPU{PC: 256, F: api.FlC | api.FlV}
	c.R = [16]uint32{1: 7, 2: 0x80000081, 3: 520, 4: 0x55, 15: 640}
	c.V[1] = api.Vec{0x04030201, 0x08070605, 0xffffffff, 0x80}
	c.V[2] = api.Vec{1, 2, 3, 4}
	return c
}

// row is an instruction, the rest of its events (behind EvExec), and what it changes of rowCPU and of the word at 520 (PC is behind the instruction if to does not change it).
type row struct {
	text   string
	to     func(*api.CPU)
	word   uint32
	events []api.Event
}

// at520 is the word at 520 in the memory with which the rows begin; the three behind it are 0.
const at520 = 0xf00df385

func wordRows() []row {
	a := func(w uint32, f int) func(*api.CPU) { return func(c *api.CPU) { c.R[0], c.F = w, f } }
	const was = api.FlC | api.FlV
	return []row{
		{"nop", func(*api.CPU) {}, at520, nil},
		{"fence", func(*api.CPU) {}, at520, nil},
		{"mov r0, r1", a(7, was), at520, nil},
		{"set r0, 0xabc", a(0xabc, was), at520, nil},
		{"add r0, r1, r2", a(0x80000088, 2), at520, nil},
		{"adc r0, r1, r2", a(0x80000089, 2), at520, nil},
		{"sub r0, r1, r2", a(0x7fffff86, 4), at520, nil},
		{"sbb r0, r1, r2", a(0x7fffff85, 4), at520, nil},
		{"and r0, r1, r2", a(1, 0), at520, nil},
		{"or r0, r1, r2", a(0x80000087, 2), at520, nil},
		{"xor r0, r1, r1", a(0, 1), at520, nil},
		{"shl r0, r2, r1", a(0x4080, 0), at520, nil},
		{"shr r0, r2, r1", a(0x01000001, 0), at520, nil},
		{"sar r0, r2, r1", a(0xff000001, 2), at520, nil},
		{"mul r0, r1, r2", a(0x80000387, was), at520, nil},
		{"mulh r0, r1, r2", a(3, was), at520, nil},
		{"div r0, r2, r1", a(0x124924a4, was), at520, nil},
		{"rem r0, r2, r1", a(5, was), at520, nil},
		{"divs r0, r2, r1", a(0xedb6db81, was), at520, nil},
		{"addk r0, r1, -7", a(0, 5), at520, nil},
		{"addi r0, r1, 0x7fffffff", a(0x80000006, 10), at520, nil},
		{"neg r0, r1", a(0xfffffff9, 6), at520, nil},
		{"not r0, r1", a(0xfffffff8, was), at520, nil},
		{"ext r0, r2, s8", a(0xffffff81, was), at520, nil},
		{"cmp r1, r2", func(c *api.CPU) { c.F = 4 }, at520, nil},
		{"cmpk r1, -1", func(c *api.CPU) { c.F = 4 }, at520, nil},
		{"cmpi r1, 0x7", func(c *api.CPU) { c.F = 1 }, at520, nil},
		{"test r2, r2", func(c *api.CPU) { c.F = 2 }, at520, nil},
		{"sel r0, r1, r2, b", a(7, was), at520, nil},
		{"sel r0, r1, r2, ae", a(0x80000081, was), at520, nil},
		{"setc r0, o", a(1, was), at520, nil},
		{"setc r4, nv", func(c *api.CPU) { c.R[4] = 0 }, at520, nil},
		{"getf r0", a(12, was), at520, nil},
		{"setf r1", func(c *api.CPU) { c.F = 7 }, at520, nil},
		{"setf r2", func(c *api.CPU) { c.F = 1 }, at520, nil},
		{"lea r0, r3, r1, 3, 0xfffffff0", a(560, was), at520, nil},
	}
}

func memoryRows() []row {
	load := func(n int) []api.Event { return []api.Event{event(api.EvLoad, 520, 0, n)} }
	store := func(n int) []api.Event { return []api.Event{event(api.EvStore, 520, 0, n)} }
	atomic := []api.Event{event(api.EvAtomic, 520, 0, 4)}
	none := func(*api.CPU) {}
	a := func(w uint32) func(*api.CPU) { return func(c *api.CPU) { c.R[0] = w } }
	return []row{
		{"load8 r0, [r3]", a(0x85), at520, load(1)},
		{"load8s r0, [r3]", a(0xffffff85), at520, load(1)},
		{"load16 r0, [r3]", a(0xf385), at520, load(2)},
		{"load32 r0, [r3]", a(at520), at520, load(4)},
		{"load32 r3, [r3]", func(c *api.CPU) { c.R[3] = at520 }, at520, load(4)},
		{"loadi r0, [r1+0x201]", a(at520), at520, load(4)},
		{"store8 r2, [r3]", none, 0xf00df381, store(1)},
		{"store16 r2, [r3]", none, 0xf00d0081, store(2)},
		{"store32 r2, [r3]", none, 0x80000081, store(4)},
		{"storei r2, [r3+0x0]", none, 0x80000081, store(4)},
		{"store32 r3, [r15-120]", none, 520, store(4)},
		{"swap r2, [r3]", func(c *api.CPU) { c.R[2] = at520 }, 0x80000081, atomic},
		{"swap r3, [r3]", func(c *api.CPU) { c.R[3] = at520 }, 520, atomic},
		{"cas r1, r4, [r3]", func(c *api.CPU) { c.R[1], c.F = at520, 4 }, at520, atomic},
		{"fadd r1, [r3]", func(c *api.CPU) { c.R[1] = at520 }, at520 + 7, atomic},
		{"vload v0, [r3]", func(c *api.CPU) { c.V[0] = api.Vec{at520} }, at520, load(16)},
		{"vstore v1, [r3]", none, 0x04030201, store(16)},
	}
}

func vectorRows() []row {
	v := func(w ...uint32) func(*api.CPU) { return func(c *api.CPU) { c.V[0] = api.Vec(w) } }
	a := func(w uint32) func(*api.CPU) { return func(c *api.CPU) { c.R[0] = w } }
	return []row{
		{"vmov v0, v1", v(0x04030201, 0x08070605, 0xffffffff, 0x80), at520, nil},
		{"vadd v0, v1, v2, 8", v(0x04030202, 0x08070607, 0xffffff02, 0x84), at520, nil},
		{"vsub v0, v2, v1, 16", v(0xfbfdfe00, 0xf7f9f9fd, 0x00010004, 0xff84), at520, nil},
		{"veq v0, v1, v1, 32", v(0xffffffff, 0xffffffff, 0xffffffff, 0xffffffff), at520, nil},
		{"vand v0, v1, v2", v(1, 0, 3, 0), at520, nil},
		{"vor v0, v1, v2", v(0x04030201, 0x08070607, 0xffffffff, 0x84), at520, nil},
		{"vxor v0, v1, v2", v(0x04030200, 0x08070607, 0xfffffffc, 0x84), at520, nil},
		{"vshuf v0, v1, v2", v(0x01010102, 0x01010103, 0x01010104, 0x01010105), at520, nil},
		{"vshuf v1, v1, v1", func(c *api.CPU) { c.V[1] = api.Vec{0x05040302, 0xff080706, 0, 0x01010101} }, at520, nil},
		{"vin v1, r4, 2", func(c *api.CPU) { c.V[1][2] = 0x55 }, at520, nil},
		{"vout r0, v1, 3", a(0x80), at520, nil},
		{"vsplat v0, r1", v(7, 7, 7, 7), at520, nil},
		{"vmask r0, v1", a(0x1f00), at520, nil},
	}
}

func jumpRows() []row {
	sp := func(to, w uint32) func(*api.CPU) { return func(c *api.CPU) { c.PC, c.R[15] = to, w } }
	to := func(to uint32) func(*api.CPU) { return func(c *api.CPU) { c.PC = to } }
	return []row{
		{"jmp 0xabcd", to(0xabcd), at520, nil},
		{"jmpr r1", to(7), at520, nil},
		{"jcc o, 0x300", to(0x300), at520, []api.Event{event(api.EvBranch, 0x300, 1, 0)}},
		{"jcc no, 0x300", to(264), at520, []api.Event{event(api.EvBranch, 264, 0, 0)}},
		{"call 0x300", sp(0x300, 636), at520, []api.Event{event(api.EvStore, 636, 0, 4), event(api.EvCall, 0x300, 264, 0)}},
		{"callr r1", sp(7, 636), at520, []api.Event{event(api.EvStore, 636, 0, 4), event(api.EvCall, 7, 260, 0)}},
		{"callr r15", sp(640, 636), at520, []api.Event{event(api.EvStore, 636, 0, 4), event(api.EvCall, 640, 260, 0)}},
		{"ret", sp(0x99, 644), at520, []api.Event{event(api.EvLoad, 640, 0, 4), event(api.EvRet, 0x99, 0, 0)}},
		{"push r1", sp(260, 636), at520, []api.Event{event(api.EvStore, 636, 0, 4)}},
		{"push r15", sp(260, 636), at520, []api.Event{event(api.EvStore, 636, 0, 4)}},
		{"pop r1", func(c *api.CPU) { c.R[1], c.R[15] = 0x99, 644 }, at520, []api.Event{event(api.EvLoad, 640, 0, 4)}},
		{"pop r15", func(c *api.CPU) { c.R[15] = 0x99 }, at520, []api.Event{event(api.EvLoad, 640, 0, 4)}},
	}
}

// rowMemory has the instruction of a row at 256, at520 at 520, and the word 0x99 at 640.
func rowMemory(t *testing.T, s string) *mem.Mem {
	t.Helper()
	m := example(t, parsed(t, s))
	m.Write(520, []byte{0x85, 0xf3, 0x0d, 0xf0})
	m.Write(640, []byte{0x99})
	return m
}

// P7.3: what each instruction does, with its events.
func TestRows(t *testing.T) {
	seen := map[int]bool{}
	for _, row := range slices.Concat(wordRows(), memoryRows(), vectorRows(), jumpRows()) {
		x := parsed(t, row.text)
		seen[x.Op] = true
		m := rowMemory(t, row.text)
		n := len(bytesOf(t, x))
		want := rowCPU()
		want.PC = 256 + uint32(n)
		row.to(&want)
		got, trap, events := cpu.Step(rowCPU(), m)
		if got != want || trap != (api.Trap{}) {
			t.Errorf("%s: %v, %v, want %v", row.text, got, trap, want)
		}
		if !slices.Equal(events, append([]api.Event{event(api.EvExec, 0, 0, n)}, row.events...)) {
			t.Errorf("%s: events %v, want %v", row.text, events, row.events)
		}
		if w := wordAt(t, m, 520); w != row.word {
			t.Errorf("%s: %#x at 520, want %#x", row.text, w, row.word)
		}
	}
	for _, op := range operations() {
		if !seen[op] && op != api.OpSys && op != api.OpReq && op != api.OpBrk {
			t.Errorf("the operation %d has no row", op)
		}
	}
}

// P7.3: what is pushed, also by calls, and what vstore stores.
func TestStoredWords(t *testing.T) {
	for _, c := range []struct {
		text string
		at   uint32
		want []uint32
	}{
		{"push r1", 636, []uint32{7}},
		{"push r15", 636, []uint32{640}},
		{"call 0x300", 636, []uint32{264}},
		{"callr r15", 636, []uint32{260}},
		{"vstore v1, [r3]", 520, []uint32{0x04030201, 0x08070605, 0xffffffff, 0x80}},
	} {
		m := rowMemory(t, c.text)
		cpu.Step(rowCPU(), m)
		for i, want := range c.want {
			if w := wordAt(t, m, c.at+4*uint32(i)); w != want {
				t.Errorf("%s: %#x at %d, want %#x", c.text, w, i, want)
			}
		}
	}
}

// P7.3: cas stores if both are equal, and only then.
func TestCompareAndStore(t *testing.T) {
	for _, c := range []struct {
		text    string
		r1      uint32
		want    uint32
		flags   int
		changed []int
	}{
		{"cas r1, r4, [r3]", at520, 0x55, api.FlZ, []int{2}},
		{"cas r1, r1, [r3]", at520, at520, api.FlZ, []int{2}},
		{"cas r1, r4, [r3]", at520 - 1, at520, api.FlN | api.FlC, nil},
		{"cas r1, r1, [r3]", at520 + 1, at520, 0, nil},
	} {
		m := rowMemory(t, c.text)
		m.Mark()
		before := rowCPU()
		before.R[1] = c.r1
		want := before
		want.R[1], want.PC, want.F = at520, 260, c.flags
		after, trap, events := cpu.Step(before, m)
		if after != want || trap != (api.Trap{}) || !slices.Equal(events, []api.Event{event(api.EvExec, 0, 0, 4), event(api.EvAtomic, 520, 0, 4)}) {
			t.Errorf("%s with %#x: %v, %v, %v", c.text, c.r1, after, trap, events)
		}
		if w := wordAt(t, m, 520); w != c.want || !slices.Equal(m.Changed(), c.changed) {
			t.Errorf("%s with %#x: %#x, pages %v", c.text, c.r1, w, m.Changed())
		}
	}
}

// P7.3: sys and req are carried out, with PC behind them; brk is not.
func TestCallsOfTheSystem(t *testing.T) {
	for text, kind := range map[string]int{"sys": api.TrSys, "req": api.TrReq} {
		m := rowMemory(t, text)
		m.Mark()
		want := rowCPU()
		want.PC = 260
		c, trap, events := cpu.Step(rowCPU(), m)
		if c != want || trap != (api.Trap{Kind: kind}) || !slices.Equal(events, []api.Event{event(api.EvExec, 0, 0, 4)}) || len(m.Changed()) > 0 {
			t.Errorf("%s: %v, %v, %v", text, c, trap, events)
		}
	}
	m := rowMemory(t, "brk")
	if c, trap, events := cpu.Step(rowCPU(), m); c != rowCPU() || trap != (api.Trap{Kind: api.TrBreak}) || len(events) > 0 {
		t.Errorf("brk: %v, %v, %v", c, trap, events)
	}
}

// P7.2, P7.3: the chapter's examples of steps.
func TestExamplesOfSteps(t *testing.T) {
	m := example(t, parsed(t, "push r1"))
	c := api.CPU{PC: 256, R: [16]uint32{1: 7, 15: 516}}
	want := c
	want.R[15], want.PC = 512, 260
	after, trap, events := cpu.Step(c, m)
	if after != want || trap != (api.Trap{}) || wordAt(t, m, 512) != 7 || !slices.Equal(events, []api.Event{event(api.EvExec, 0, 0, 4), event(api.EvStore, 512, 0, 4)}) {
		t.Errorf("push: %v, %v, %v", after, trap, events)
	}
	c.R[15] = 256
	wantFault(t, state{c, m}, api.Trap{Kind: api.TrSegv, Addr: 252})
	m = example(t, parsed(t, "jcc e, 0x100"))
	c = api.CPU{PC: 256, F: api.FlZ}
	after, trap, events = cpu.Step(c, m)
	if after != c || trap != (api.Trap{}) || !slices.Equal(events, []api.Event{event(api.EvExec, 0, 0, 8), event(api.EvBranch, 256, 1, 0)}) {
		t.Errorf("jcc: %v, %v, %v", after, trap, events)
	}
	wantFault(t, state{api.CPU{PC: 258}, m}, api.Trap{Kind: api.TrAlign, Addr: 258})
	wantFault(t, state{api.CPU{PC: 512}, m}, api.Trap{Kind: api.TrSegv, Addr: 512})
	wantFault(t, state{api.CPU{PC: 264}, m}, api.Trap{Kind: api.TrIll})
}

// wantFault holds that the instruction ends in a trap that leaves everything as it was; only the flags are taken modulo 16.
func wantFault(t *testing.T, s state, want api.Trap) {
	t.Helper()
	o := s.stepped()
	s.c.F &= 15
	if o.c != s.c || o.trap != want || len(o.events) > 0 || !mem.Same(o.m, s.m) || len(o.m.Changed()) > 0 {
		t.Errorf("at %#x: %v, %v, %v, want %v", s.c.PC, o.c, o.trap, o.events, want)
	}
}

// P7.3, P7.6: which trap it is, and its address.
func TestTraps(t *testing.T) {
	m := loaded(t, page(0, 7), page(1, 7), page(2, 3), page(3, 1), page(4, 2), page(5, 4), page(lastPage, 7))
	segv := func(at uint32) api.Trap { return api.Trap{Kind: api.TrSegv, Addr: at} }
	for _, c := range []struct {
		text string
		at   uint32 // r3 and SP
		want api.Trap
	}{
		{"load32 r0, [r3]", 0xfffffefd, segv(0xfffffefd)},
		{"load32 r0, [r3]", 1022, segv(1024)},
		{"load32 r0, [r3]", 1280, segv(1280)},
		{"load8 r0, [r3-1]", 1281, segv(1280)},
		{"load8s r0, [r3+1]", 1535, segv(1536)},
		{"load16 r0, [r3]", 1023, segv(1024)},
		{"loadi r0, [r3+0x8]", 1015, segv(1024)},
		{"store8 r3, [r3]", 768, segv(768)},
		{"store16 r3, [r3]", 767, segv(768)},
		{"store32 r3, [r3]", 765, segv(768)},
		{"storei r3, [r3+0xfffffffe]", 768, segv(768)},
		{"push r0", 770, segv(768)},
		{"push r3", 1280 + 8, segv(1284)},
		{"pop r3", 1021, segv(1024)},
		{"swap r3, [r3]", 766, segv(768)},
		{"swap r3, [r3]", 900, segv(900)},
		{"cas r0, r3, [r3]", 900, segv(900)},
		{"cas r0, r3, [r3]", 1100, segv(1100)},
		{"fadd r0, [r3]", 1100, segv(1100)},
		{"call 0x100", 1000, segv(996)},
		{"callr r3", 1000, segv(996)},
		{"ret", 1024, segv(1024)},
		{"vload v0, [r3]", 1009, segv(1024)},
		{"vload v0, [r3]", 0xfffffef8, segv(0xfffffef8)},
		{"vstore v0, [r3]", 753, segv(768)},
		{"div r0, r3, r2", 5, api.Trap{Kind: api.TrDiv}},
		{"rem r0, r3, r2", 5, api.Trap{Kind: api.TrDiv}},
		{"divs r0, r3, r2", 5, api.Trap{Kind: api.TrDiv}},
		{"brk", 5, api.Trap{Kind: api.TrBreak}},
	} {
		m.Poke(256, bytesOf(t, parsed(t, c.text)))
		s := state{api.CPU{PC: 256, F: 9, R: [16]uint32{3: c.at, 15: c.at}}, m}
		wantFault(t, s, c.want)
		s.c.F = 9 - 32
		wantFault(t, s, c.want)
	}
}

// P7.2, P7.3: instructions that cannot be fetched.
func TestFetchTraps(t *testing.T) {
	m := loaded(t, page(0, 7), page(1, 4), page(2, 3), page(lastPage, 7))
	put(t, m, 508, api.Insn{Op: api.OpNop})
	put(t, m, 256, api.Insn{Op: api.OpMov, A: 1, B: 2})
	m.Poke(264, []byte{62, 0, 0, 0, 73, 0, 0, 0, 3, 33, 19, 0, 255, 255, 255, 255})
	put(t, m, 280, api.Insn{Op: api.OpSet, A: 3, I: 0x01020304})
	m.Poke(288, []byte{64, 16, 0, 0, 0, 0, 0, 0})
	for _, c := range []struct {
		pc   uint32
		x    api.Insn
		n    int
		want api.Trap
	}{
		{256, api.Insn{Op: api.OpMov, A: 1, B: 2}, 4, api.Trap{}},
		{280, api.Insn{Op: api.OpSet, A: 3, I: 0x01020304}, 8, api.Trap{}},
		{508, api.Insn{Op: api.OpNop}, 4, api.Trap{}},
		{260, api.Insn{}, 0, api.Trap{Kind: api.TrIll}},
		{264, api.Insn{}, 0, api.Trap{Kind: api.TrIll}},
		{268, api.Insn{}, 0, api.Trap{Kind: api.TrIll}},
		{272, api.Insn{}, 0, api.Trap{Kind: api.TrIll}},
		{276, api.Insn{}, 0, api.Trap{Kind: api.TrIll}},
		{288, api.Insn{}, 0, api.Trap{Kind: api.TrIll}},
		{512, api.Insn{}, 0, api.Trap{Kind: api.TrSegv, Addr: 512}},
		{768, api.Insn{}, 0, api.Trap{Kind: api.TrSegv, Addr: 768}},
		{257, api.Insn{}, 0, api.Trap{Kind: api.TrAlign, Addr: 257}},
		{769, api.Insn{}, 0, api.Trap{Kind: api.TrAlign, Addr: 769}},
		{math.MaxUint32, api.Insn{}, 0, api.Trap{Kind: api.TrAlign, Addr: math.MaxUint32}},
	} {
		x, n, trap := cpu.Fetch(c.pc, m)
		if x != c.x || n != c.n || trap != c.want {
			t.Errorf("Fetch at %#x: %v, %d, %v", c.pc, x, n, trap)
		}
		if n == 0 {
			wantFault(t, state{api.CPU{PC: c.pc, F: 3}, m}, c.want)
		}
	}
}

// P7.2, P7.3: a long instruction whose second half is not executable, or comes behind the last address.
func TestFetchHalves(t *testing.T) {
	m := loaded(t, page(0, 7), page(1, 7), page(2, 3), page(lastPage, 7))
	for _, first := range []byte{64, 68, 72} {
		m.Poke(508, []byte{first, 0, 0, 0})
		wantFault(t, state{api.CPU{PC: 508}, m}, api.Trap{Kind: api.TrSegv, Addr: 512})
		// What cannot be executed comes ahead of what is no instruction.
		m.Poke(508, []byte{first, 255, 255, 255})
		wantFault(t, state{api.CPU{PC: 508}, m}, api.Trap{Kind: api.TrSegv, Addr: 512})
	}
	for _, first := range []byte{0, 62, 63, 73, 128, 255} {
		m.Poke(508, []byte{first, 0, 0, 0})
		wantFault(t, state{api.CPU{PC: 508}, m}, api.Trap{Kind: api.TrIll})
	}
	put(t, m, 0xfffffffc, parsed(t, "set r1, 0x12345678"))
	c, trap, events := cpu.Step(api.CPU{PC: 0xfffffffc}, m)
	if c != (api.CPU{PC: 4, R: [16]uint32{1: 0x12345678}}) || trap != (api.Trap{}) || !slices.Equal(events, []api.Event{{Kind: api.EvExec, PC: 0xfffffffc, N: 8}}) {
		t.Errorf("set: %v, %v, %v", c, trap, events)
	}
	m.Protect(0, 1, 3)
	wantFault(t, state{api.CPU{PC: 0xfffffffc}, m}, api.Trap{Kind: api.TrSegv, Addr: 0})
}

// P7.2, P7.3, P7.4: a memory without pages, nil or not.
func TestNoMemory(t *testing.T) {
	for _, m := range []*mem.Mem{nil, mem.New(), {}} {
		c := api.CPU{PC: 8, F: -1, R: [16]uint32{1: 1}}
		want := c
		want.F = 15
		segv := api.Trap{Kind: api.TrSegv, Addr: 8}
		if x, n, trap := cpu.Fetch(8, m); x != (api.Insn{}) || n != 0 || trap != segv {
			t.Errorf("Fetch: %v, %d, %v", x, n, trap)
		}
		if after, trap, events := cpu.Step(c, m); after != want || trap != segv || len(events) > 0 {
			t.Errorf("Step: %v, %v, %v", after, trap, events)
		}
		if after, trap, events, n := cpu.Run(c, m, 5); after != want || trap != segv || len(events) > 0 || n != 0 {
			t.Errorf("Run: %v, %v, %v, %d", after, trap, events, n)
		}
	}
}

// P7.3: flags are taken modulo 16.
func TestFlagsModulo(t *testing.T) {
	for _, f := range []int{16 + 5, -16 + 5, 1<<40 + 5, math.MinInt + 5, 5} {
		for _, text := range []string{"nop", "getf r0", "adc r0, r1, r1", "sys", "brk", "setc r0, b", "jmpr r1"} {
			m := rowMemory(t, text)
			c := api.CPU{PC: 256, R: [16]uint32{1: 9}}
			c.F = f
			got, gotTrap, gotEvents := cpu.Step(c, m)
			c.F = 5
			want, wantTrap, wantEvents := cpu.Step(c, m)
			if got != want || gotTrap != wantTrap || !slices.Equal(gotEvents, wantEvents) || got.F < 0 || got.F > 15 {
				t.Errorf("%s with F %d: %v, %v, %v", text, f, got, gotTrap, gotEvents)
			}
		}
	}
}

// P7.3: an instruction that stores over itself is carried out as it was.
func TestStoreOverItself(t *testing.T) {
	m := example(t, parsed(t, "store32 r0, [r1]"))
	c := api.CPU{PC: 256, R: [16]uint32{1: 256}}
	after, trap, _ := cpu.Step(c, m)
	if after.PC != 260 || trap != (api.Trap{}) || wordAt(t, m, 256) != 0 {
		t.Errorf("%v, %v", after, trap)
	}
	wantFault(t, state{c, m}, api.Trap{Kind: api.TrIll})
}

// P7.2: the bytes that instructions load and store.
func TestReach(t *testing.T) {
	c := api.CPU{F: 99, R: [16]uint32{2: 1000, 3: 3, 15: 2}}
	span := func(at uint32, n int) api.Span { return api.Span{At: at, N: n} }
	none := api.Span{}
	for _, x := range []struct {
		text        string
		load, store api.Span
	}{
		{"nop", none, none},
		{"add r1, r2, r3", none, none},
		{"load8 r1, [r2-8]", span(992, 1), none},
		{"load8s r1, [r2+127]", span(1127, 1), none},
		{"load16 r1, [r3-4]", span(math.MaxUint32, 2), none},
		{"load32 r2, [r2]", span(1000, 4), none},
		{"loadi r2, [r2+0xfffffff0]", span(984, 4), none},
		{"store8 r1, [r2]", none, span(1000, 1)},
		{"store16 r1, [r2]", none, span(1000, 2)},
		{"store32 r1, [r0-128]", none, span(0xffffff80, 4)},
		{"storei r1, [r3+0x12345678]", none, span(0x1234567b, 4)},
		{"push r2", none, span(0xfffffffe, 4)},
		{"pop r2", span(2, 4), none},
		{"swap r1, [r2+4]", span(1004, 4), span(1004, 4)},
		{"cas r1, r3, [r2]", span(1000, 4), span(1000, 4)},
		{"fadd r1, [r0]", span(0, 4), span(0, 4)},
		{"jmpr r2", none, none},
		{"callr r2", none, span(0xfffffffe, 4)},
		{"call 0x64", none, span(0xfffffffe, 4)},
		{"ret", span(2, 4), none},
		{"jcc e, 0x64", none, none},
		{"lea r1, r2, r3, 2, 0x64", none, none},
		{"vload v2, [r2]", span(1000, 16), none},
		{"vstore v2, [r2]", none, span(1000, 16)},
		{"vmov v2, v2", none, none},
		{"sys", none, none},
		{"brk", none, none},
	} {
		if load, store, err := cpu.Reach(c, parsed(t, x.text)); load != x.load || store != x.store || err != api.OK {
			t.Errorf("%s: %v, %v, %d, want %v, %v", x.text, load, store, err, x.load, x.store)
		}
	}
	for _, x := range []api.Insn{{}, {Op: 62}, {Op: -1}, {Op: 73}, {Op: api.OpLoad32, A: 16}, {Op: api.OpLoad32, C: 1}, {Op: api.OpPush, B: 1}, {Op: api.OpVLoad, A: 8}, {Op: api.OpStore8, K: 128}} {
		if load, store, err := cpu.Reach(c, x); load != none || store != none || err != api.ErrInsn {
			t.Errorf("%v: %v, %v, %d", x, load, store, err)
		}
	}
}

// program is a memory with instructions from 256 on.
func program(t *testing.T, texts ...string) *mem.Mem {
	t.Helper()
	var l []api.Insn
	for _, s := range texts {
		l = append(l, parsed(t, s))
	}
	return example(t, l...)
}

// P7.4: how runs end, and what they count.
func TestRun(t *testing.T) {
	ends := map[string]struct {
		trap   api.Trap
		n      int
		pc     uint32
		events int
	}{
		"sys":             {api.Trap{Kind: api.TrSys}, 3, 272, 4},
		"req":             {api.Trap{Kind: api.TrReq}, 3, 272, 4},
		"brk":             {api.Trap{Kind: api.TrBreak}, 2, 268, 3},
		"div r0, r0, r9":  {api.Trap{Kind: api.TrDiv}, 2, 268, 3},
		"load8 r0, [r1]":  {api.Trap{Kind: api.TrSegv}, 2, 268, 3},
		"jmpr r2":         {api.Trap{Kind: api.TrAlign, Addr: 517}, 3, 517, 4},
		"jmp 0x200":       {api.Trap{Kind: api.TrSegv, Addr: 512}, 3, 512, 4},
		"vmov v0, v0":     {api.Trap{Kind: api.TrIll}, 3, 272, 4},
		"store8 r0, [r2]": {api.Trap{Kind: api.TrIll}, 3, 272, 5},
	}
	for text, want := range ends {
		m := program(t, "set r2, 0x205", "push r2", text)
		c, trap, events, n := cpu.Run(api.CPU{PC: 256, R: [16]uint32{15: 516}}, m, 1000)
		if c.PC != want.pc || c.R[2] != 517 || trap != want.trap || len(events) != want.events || n != want.n {
			t.Errorf("%s: %v, %v, %v, %d", text, c, trap, events, n)
		}
	}
}

// P7.4: how many instructions are carried out.
func TestRunCounts(t *testing.T) {
	for most, want := range map[int]int{math.MinInt: 0, -1: 0, 0: 0, 1: 1, 2: 2, 3: 3, 99999: 99999, 100000: 100000, 100001: 100000, math.MaxInt: 100000} {
		m := program(t, "addk r1, r1, 1", "jmp 0x100")
		c, trap, events, n := cpu.Run(api.CPU{PC: 256}, m, most)
		if n != want || len(events) != want || trap != (api.Trap{}) || c.R[1] != uint32(want+1)/2 || c.PC != 256+4*uint32(want%2) {
			t.Errorf("Run of %d: %v, %v, %d events, %d", most, c, trap, len(events), n)
		}
	}
	m := program(t, "sys")
	m.Mark()
	before := api.CPU{PC: 256, R: [16]uint32{4, 5}, F: 3}
	if c, trap, events, n := cpu.Run(before, m, 0); c != before || trap != (api.Trap{}) || len(events) > 0 || n != 0 || len(m.Changed()) > 0 {
		t.Errorf("Run of 0: %v, %v, %v, %d", c, trap, events, n)
	}
}

// P7.4: a program that adds up to 10, with all its events.
func TestRunOfLoop(t *testing.T) {
	m := program(t, "add r1, r1, r2", "addk r2, r2, -1", "jcc ne, 0x100", "store32 r1, [r3]", "brk")
	c, trap, events, n := cpu.Run(api.CPU{PC: 256, R: [16]uint32{2: 10, 3: 600}}, m, 1<<20)
	if c.R[1] != 55 || c.R[2] != 0 || c.PC != 276 || trap.Kind != api.TrBreak || n != 31 || wordAt(t, m, 600) != 55 {
		t.Errorf("%v, %v, %d", c, trap, n)
	}
	var want []api.Event
	for i := range 10 {
		to, taken := uint32(256), uint32(1)
		if i == 9 {
			to, taken = 272, 0
		}
		want = append(want, api.Event{Kind: api.EvExec, PC: 256, N: 4}, api.Event{Kind: api.EvExec, PC: 260, N: 4},
			api.Event{Kind: api.EvExec, PC: 264, N: 8}, api.Event{Kind: api.EvBranch, PC: 264, A: to, B: taken})
	}
	want = append(want, api.Event{Kind: api.EvExec, PC: 272, N: 4}, api.Event{Kind: api.EvStore, PC: 272, A: 600, N: 4})
	if !slices.Equal(events, want) {
		t.Errorf("events %v, want %v", events, want)
	}
}

// P7.2: the operations that have a place in memory are those that isa says load or store.
func TestReachOfAll(t *testing.T) {
	r := random(9)
	for _, op := range operations() {
		x := randomInsn(t, r, op)
		uses, _ := isa.UsesOf(x)
		load, store, err := cpu.Reach(randomCPU(r), x)
		if load.N != uses.Load || store.N != uses.Store || err != api.OK {
			t.Errorf("%v: %v, %v, %d", x, load, store, err)
		}
	}
}
