package kern_test

import (
	"bytes"
	"math"
	"math/rand/v2"
	"slices"
	"testing"

	"candling/api"
	"candling/asm"
	"candling/heap"
	"candling/isa"
	"candling/kern"
	"candling/link"
)

const lastPage = 1<<24 - 1

// mostSteps is how many steps a world can have.
const mostSteps = 1000000000

func random(seed uint64) *rand.Rand { return rand.New(rand.NewPCG(seed, 8)) }

func pick[T any](r *rand.Rand, l ...T) T { return l[r.IntN(len(l))] }

// isOneIn is true once in n times.
func isOneIn(r *rand.Rand, n int) bool { return r.IntN(n) == 0 }

func page(n, rights int, b ...byte) api.Page {
	return api.Page{N: n, Rights: rights, B: append(slices.Clone(b), make([]byte, 256-len(b))...)}
}

func made(t *testing.T, s api.Setup) *kern.Machine {
	t.Helper()
	m, err := kern.New(s)
	if err != api.OK {
		t.Fatalf("New: %d", err)
	}
	return m
}

func loaded(t *testing.T, w api.World) *kern.Machine {
	t.Helper()
	m, err := kern.Load(w)
	if err != api.OK {
		t.Fatalf("Load: %d", err)
	}
	return m
}

// done makes a turn that can be made.
func done(t *testing.T, m *kern.Machine, turn api.Turn) ([]api.Event, int) {
	t.Helper()
	events, n, err := m.Do(turn)
	if err != api.OK {
		t.Fatalf("Do of %v: %d", turn, err)
	}
	return events, n
}

func wantSame(t *testing.T, m *kern.Machine, want api.World) {
	t.Helper()
	if got := m.Save(); !kern.Same(got, want) {
		t.Fatalf("the world is %v, want %v", brief(got), brief(want))
	}
}

// brief is a world without bytes of pages, which are many.
func brief(w api.World) api.World {
	w.Pages = nil
	return w
}

func wantEvents(t *testing.T, got []api.Event, want ...api.Event) {
	t.Helper()
	if !slices.Equal(got, want) {
		t.Fatalf("events: %v, want %v", got, want)
	}
}

// encoded is the bytes of instructions.
func encoded(l ...api.Insn) []byte {
	var all []byte
	for _, x := range l {
		b, err := isa.Encode(x)
		if err != api.OK {
			panic("no instruction")
		}
		all = append(all, b...)
	}
	return all
}

func set(register int, w uint32) api.Insn { return api.Insn{Op: api.OpSet, A: register, I: w} }

var sys = api.Insn{Op: api.OpSys}

// calling is the instructions of a system call.
func calling(number uint32, arguments ...uint32) []api.Insn {
	l := []api.Insn{set(0, number)}
	for i, w := range arguments {
		l = append(l, set(i+1, w))
	}
	return append(l, sys)
}

// setup is a program whose code stands from the address 4096 on, with the stack and data below 8448, and a heap.
func setup(code ...api.Insn) api.Setup {
	return api.Setup{
		Pages: []api.Page{page(16, 7, encoded(code...)...), page(32, 3)},
		Entry: 4096,
		SP:    8448,
		Heap:  api.HeapConf{Page: 64, N: 4, Red: 8},
	}
}

// example is the program of the chapter's examples.
func example() api.Setup {
	return setup(set(0, 16), set(1, 10), sys, set(0, 0), set(1, 7), sys)
}

// assembled is the program with a source text, whose entry is main; its stack and data are as those of setup.
func assembled(t *testing.T, source string) api.Setup {
	t.Helper()
	o, line, err := asm.Assemble(source, "test.s")
	if err != api.OK {
		t.Fatalf("line %d: %d", line, err)
	}
	image, name, err := link.Link([]api.Object{o}, nil, api.LinkConf{Base: 4096, Entry: "main"})
	if err != api.OK {
		t.Fatalf("Link: %s: %d", name, err)
	}
	pages, err := link.Pages(image)
	if err != api.OK {
		t.Fatalf("Pages: %d", err)
	}
	s := setup()
	s.Pages, s.Entry = append(pages, page(32, 3), page(33, 3), page(34, 3)), image.Entry
	s.SP = 35 * 256
	return s
}

// copied shares no memory with a world.
func copied(w api.World) api.World {
	w.Threads, w.Pages, w.Locks = slices.Clone(w.Threads), slices.Clone(w.Pages), slices.Clone(w.Locks)
	for i := range w.Threads {
		w.Threads[i].Sent = slices.Clone(w.Threads[i].Sent)
	}
	for i := range w.Pages {
		w.Pages[i].B = bytes.Clone(w.Pages[i].B)
	}
	w.Heap.Live, w.Heap.Quar = slices.Clone(w.Heap.Live), slices.Clone(w.Heap.Quar)
	w.In, w.Out = bytes.Clone(w.In), bytes.Clone(w.Out)
	return w
}

// randomWorld is a valid world; it has ended seldom.
func randomWorld(r *rand.Rand) api.World {
	var w api.World
	w.Heap = randomHeap(r)
	w.Pages = randomPages(r, w.Heap.Conf)
	w.Threads = make([]api.Thread, pick(r, 1, 2, 3, 1+r.IntN(8), 8))
	w.Ended = isOneIn(r, 30)
	for i := range w.Threads {
		w.Threads[i] = randomThread(r, i, len(w.Threads), w.Heap)
	}
	if !w.Ended {
		n := r.IntN(len(w.Threads))
		w.Threads[n].Status, w.Threads[n].W = api.ThReady, 0
	}
	w.Locks = randomLocks(r, w.Threads)
	for i := range 7 {
		w.Actions[i] = pick(r, 0, 4096, 4096+4*uint32(r.IntN(128)), randomWord(r, w.Heap))
	}
	w.In = randomBytes(r, pick(r, r.IntN(20), 300))
	w.InAt = pick(r, 0, r.IntN(len(w.In)+1))
	w.Out = randomBytes(r, pick(r, r.IntN(20), r.IntN(20), 65536-r.IntN(20)))
	w.Steps = pick(r, 0, r.IntN(1000), mostSteps-r.IntN(5))
	if w.Ended {
		w.Code, w.Sig = r.IntN(3), r.IntN(9)
	}
	return w
}

func randomBytes(r *rand.Rand, n int) []byte {
	b := make([]byte, n)
	for i := range b {
		b[i] = byte(r.Uint32())
	}
	return b
}

func randomHeap(r *rand.Rand) api.Heap {
	h, _ := heap.New(api.HeapConf{Page: 64, N: r.IntN(5), Red: pick(r, 0, 8), Quarantine: pick(r, 0, 50, 1000)})
	for range r.IntN(8) {
		if after, _, err := heap.Alloc(h, r.IntN(60)); err == api.OK {
			h = after
		}
		if len(h.Live) > 0 && isOneIn(r, 3) {
			h, _ = heap.Free(h, pick(r, h.Live...).At)
		}
	}
	return h
}

// randomPages has code in the pages 16 and 17, data with all rights, and the pages of a heap.
func randomPages(r *rand.Rand, c api.HeapConf) []api.Page {
	l := []api.Page{page(0, r.IntN(8)), page(16, 7), page(17, 7)}
	copy(l[1].B, randomCode(r))
	copy(l[2].B, randomCode(r))
	for i, rights := range []int{3, 3, 1, 3, 2, 4, 0, 7, 3} {
		l = append(l, page(32+i, rights, randomBytes(r, 256)...))
	}
	for i := range c.N {
		l = append(l, page(c.Page+i, 3, randomBytes(r, 256)...))
	}
	return append(l, page(lastPage, pick(r, 3, 7, 1)))
}

// randomCode fills a page with instructions, many of which trap.
func randomCode(r *rand.Rand) []byte {
	var all []byte
	for len(all) < 256 {
		switch r.IntN(9) {
		case 0, 1, 2:
			all = append(all, encoded(sys)...)
		case 3:
			all = append(all, encoded(api.Insn{Op: pick(r, api.OpReq, api.OpBrk, api.OpDiv, api.OpNop)})...)
		case 4:
			all = append(all, encoded(set(r.IntN(5), uint32(r.IntN(24))))...)
		case 5:
			all = append(all, encoded(api.Insn{Op: pick(r, api.OpPush, api.OpPop, api.OpMov), A: r.IntN(16)})...)
		case 6:
			all = append(all, encoded(api.Insn{Op: pick(r, api.OpLoad32, api.OpStore32, api.OpSwap), A: r.IntN(4), B: r.IntN(16), K: 4 * r.IntN(4)})...)
		case 7:
			all = append(all, encoded(api.Insn{Op: api.OpJmp, I: 4096 + 4*uint32(r.IntN(128))})...)
		case 8:
			all = append(all, randomBytes(r, 4)...)
		}
	}
	return all[:256]
}

// randomThread waits for something that may be, or has the number and arguments of a system call in its registers.
func randomThread(r *rand.Rand, number, threads int, h api.Heap) api.Thread {
	t := api.Thread{Status: pick(r, api.ThReady, api.ThReady, api.ThReady, api.ThDone, api.ThDone, api.ThJoin, api.ThLock), Mask: pick(r, 0, r.IntN(128), 127)}
	t.CPU = randomCPU(r, h)
	other := r.IntN(threads)
	switch {
	case t.Status == api.ThJoin && other == number:
		t.Status = api.ThReady
	case t.Status == api.ThJoin:
		t.W = uint32(other)
	case t.Status == api.ThLock:
		t.W = randomMutex(r)
	}
	for range pick(r, 0, 0, r.IntN(4), 62+r.IntN(3)) {
		t.Sent = append(t.Sent, 1+r.IntN(8))
	}
	return t
}

func randomCPU(r *rand.Rand, h api.Heap) api.CPU {
	c := api.CPU{F: r.IntN(16), PC: 4096 + 4*uint32(r.IntN(128))}
	if isOneIn(r, 20) {
		c.PC = randomWord(r, h)
	}
	for i := range c.R {
		c.R[i] = randomWord(r, h)
	}
	if !isOneIn(r, 5) {
		number := uint32(r.IntN(api.MaxSys + 1))
		l := randomArguments(r, number, h)
		c.R[0], c.R[1], c.R[2], c.R[3] = number, l[0], l[1], l[2]
	}
	c.R[api.SP] = pick(r, 32*256, 34*256+100, 34*256, 34*256, c.R[api.SP])
	for i := range c.V {
		c.V[i] = api.Vec{r.Uint32(), r.Uint32(), r.Uint32(), r.Uint32()}
	}
	return c
}

// randomArguments is what a system call takes, most of the time.
func randomArguments(r *rand.Rand, number uint32, h api.Heap) [3]uint32 {
	word := func(n int) uint32 { return uint32(r.IntN(n)) }
	if isOneIn(r, 4) {
		return [3]uint32{randomWord(r, h), randomWord(r, h), randomWord(r, h)}
	}
	switch number {
	case api.SysWrite, api.SysRead:
		return [3]uint32{32*256 + word(9*256), word(40)}
	case api.SysMap:
		return [3]uint32{pick[uint32](r, 41, 58, lastPage-8) + word(8), word(4), word(9)}
	case api.SysUnmap, api.SysProtect:
		return [3]uint32{pick[uint32](r, 32, 32, 61) + word(9), word(4), word(9)}
	case api.SysSpawn:
		return [3]uint32{4096 + 4*word(128), 33 * 256, word(100)}
	case api.SysJoin, api.SysKill:
		return [3]uint32{word(4), word(10)}
	case api.SysLock, api.SysUnlock:
		return [3]uint32{word(4)}
	case api.SysFree, api.SysSize, api.SysResize:
		if len(h.Live) > 0 {
			return [3]uint32{pick(r, h.Live...).At, word(100)}
		}
	}
	return [3]uint32{word(10), word(10), word(10)}
}

// randomWord is something that system calls take.
func randomWord(r *rand.Rand, h api.Heap) uint32 {
	switch r.IntN(8) {
	case 0:
		return randomMutex(r)
	case 1:
		return uint32(pick(r, 16, 32+r.IntN(10), 60+r.IntN(10), lastPage, lastPage+1))
	case 2:
		return uint32(32*256 + r.IntN(9*256))
	case 3:
		if l := append(slices.Clone(h.Live), h.Quar...); len(l) > 0 {
			return pick(r, l...).At
		}
	case 4:
		return pick(r, r.Uint32(), math.MaxUint32-uint32(r.IntN(3)), 65535+uint32(r.IntN(3)))
	case 5:
		return uint32(r.IntN(300))
	}
	return uint32(r.IntN(10))
}

func randomMutex(r *rand.Rand) uint32 {
	return pick(r, uint32(r.IntN(4)), math.MaxUint32, 1000+uint32(r.IntN(2)))
}

// randomLocks is mutexes of threads that are not done: few of them, or almost as many as there may be.
func randomLocks(r *rand.Rand, threads []api.Thread) []api.Lock {
	var numbers []uint32
	for range r.IntN(7) {
		numbers = append(numbers, randomMutex(r))
	}
	if isOneIn(r, 5) {
		for i := range 64 - r.IntN(3) {
			numbers = append(numbers, 1000+uint32(i))
		}
	}
	slices.Sort(numbers)
	var l []api.Lock
	for _, n := range slices.Compact(numbers) {
		if i := r.IntN(len(threads)); threads[i].Status != api.ThDone && len(l) < api.MaxLocks {
			l = append(l, api.Lock{At: n, Owner: i})
		}
	}
	return l
}

// randomTurn is one that can be made, most of the time.
func randomTurn(r *rand.Rand, threads int) api.Turn {
	t := api.Turn{Thread: r.IntN(threads), Steps: r.IntN(4), Sig: pick(r, 0, 0, 0, r.IntN(9))}
	switch r.IntN(60) {
	case 0:
		t.Thread = pick(r, -1, threads, math.MinInt, math.MaxInt)
	case 1:
		t.Steps = pick(r, -1, api.MaxSteps, api.MaxSteps+1, math.MinInt, math.MaxInt)
	case 2:
		t.Sig = pick(r, -1, 9, math.MinInt, math.MaxInt)
	}
	return t
}
