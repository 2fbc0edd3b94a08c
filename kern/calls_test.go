package kern_test

import (
	"slices"
	"testing"

	"candling/api"
	"candling/heap"
	"candling/kern"
)

// called is a world in which thread 0, at 4112, makes a system call.
type called struct {
	api.World
	t *testing.T
}

// base is the world of the examples with a block of 10 bytes at 16392, of which input and output are some bytes.
func base(t *testing.T) called {
	t.Helper()
	w := made(t, example()).Save()
	h, at, err := heap.Alloc(w.Heap, 10)
	if at != 16392 || err != api.OK {
		t.Fatalf("Alloc: %d, %d", at, err)
	}
	w.Heap, w.In, w.InAt, w.Out, w.Steps = h, []byte{1, 2, 3, 4, 5}, 1, []byte{9}, 100
	w.Threads[0].CPU.PC = 4112
	return called{w, t}
}

// with gives thread 0 its registers from r0 on.
func (c called) with(l ...uint32) called {
	c.World = copied(c.World)
	copy(c.Threads[0].CPU.R[:], l)
	return c
}

// event is an event of thread 0 behind the instruction.
func event(kind int, a, b uint32, n int) api.Event {
	return api.Event{Kind: kind, PC: 4112, A: a, B: b, N: n}
}

// wants holds that the call returns a result, that its events are these, and EvSys, and that the world has changed so.
func (c called) wants(result uint32, change func(w *api.World), events ...api.Event) {
	c.t.Helper()
	number := c.Threads[0].CPU.R[0]
	c.leaves(func(w *api.World) {
		w.Threads[0].CPU.R[0] = result
		change(w)
	}, append(events, event(api.EvSys, number, result, 0))...)
}

// leaves holds that the events of the call are these, and that the world has changed so.
func (c called) leaves(change func(w *api.World), events ...api.Event) {
	c.t.Helper()
	r := c.Threads[0].CPU.R
	m := loaded(c.t, c.World)
	got, err := m.Trap(0, api.Trap{Kind: api.TrSys})
	if err != api.OK {
		c.t.Fatalf("%v: %d", r, err)
	}
	if !slices.Equal(got, events) {
		c.t.Errorf("%v: %v, want %v", r, got, events)
	}
	want := copied(c.World)
	change(&want)
	if w := m.Save(); !kern.Same(w, want) {
		c.t.Errorf("%v: the world is %v, want %v", r, brief(w), brief(want))
	}
}

func (c called) isBad(l ...uint32) {
	c.t.Helper()
	c.with(l...).wants(api.SysBad, nothing)
}

func nothing(*api.World) {}

// P8.2: numbers that are no system calls, and calls that always can be done.
func TestSimpleCalls(t *testing.T) {
	c := base(t)
	for _, number := range []uint32{21, 22, 255, 1 << 31, api.SysBad} {
		c.isBad(number, 1, 2, 3)
	}
	c.with(api.SysYield, 5).wants(0, nothing)
	c.with(api.SysClock, 5).wants(100, nothing)
	c.with(api.SysMask, 0xffffff85).wants(0, func(w *api.World) { w.Threads[0].Mask = 5 })
	c.Threads[0].Mask = 127
	c.with(api.SysMask, 128).wants(127, func(w *api.World) { w.Threads[0].Mask = 0 })
	c.with(api.SysExit, 1<<32-1).leaves(func(w *api.World) { w.Ended, w.Code = true, 1<<32-1 }, event(api.EvEnd, 0, 0, 1<<32-1))
}

// P8.2: a clock that has been read counts the step of its own call.
func TestClock(t *testing.T) {
	m := made(t, setup(calling(api.SysClock)...))
	done(t, m, api.Turn{Steps: 2})
	if c, _ := m.CPU(0); c.R[0] != 2 {
		t.Errorf("the clock says %d", c.R[0])
	}
}

// P8.2: output, up to its limit.
func TestWrite(t *testing.T) {
	c := base(t)
	copy(c.Pages[1].B, []byte{7, 8, 9})
	c.with(api.SysWrite, 8192, 3).wants(3, func(w *api.World) { w.Out = []byte{9, 7, 8, 9} }, event(api.EvOutput, 8192, 0, 3))
	c.with(api.SysWrite, 5, 0).wants(0, nothing, event(api.EvOutput, 5, 0, 0))
	c.isBad(api.SysWrite, 8448-2, 3)
	c.isBad(api.SysWrite, 8192, 1<<32-1)
	c.Pages[1].Rights = 2
	c.isBad(api.SysWrite, 8192, 1)
	c.Pages[1].Rights = 1
	c.Out = make([]byte, 65533)
	c.with(api.SysWrite, 8192, 3).wants(3, func(w *api.World) { w.Out = append(w.Out, 7, 8, 9) }, event(api.EvOutput, 8192, 0, 3))
	c.isBad(api.SysWrite, 8192, 4)
	c.Out = nil
	for i := range 256 {
		c.Pages = append(c.Pages, page(1000+i, 1))
	}
	c.with(api.SysWrite, 256000, 65536).wants(65536, func(w *api.World) { w.Out = make([]byte, 65536) }, event(api.EvOutput, 256000, 0, 65536))
	c.Pages = append(c.Pages, page(1256, 1))
	c.isBad(api.SysWrite, 256000, 65537)
}

// P8.2: input, as much as there is.
func TestRead(t *testing.T) {
	c := base(t)
	reads := func(w *api.World) {
		w.InAt = 3
		copy(w.Pages[1].B[254:], []byte{2, 3})
	}
	c.with(api.SysRead, 8446, 2).wants(2, reads, event(api.EvInput, 8446, 0, 2))
	c.with(api.SysRead, 8192, 1<<32-1).wants(4, func(w *api.World) { w.InAt = 5; copy(w.Pages[1].B, []byte{2, 3, 4, 5}) }, event(api.EvInput, 8192, 0, 4))
	c.isBad(api.SysRead, 8446, 3)
	c.with(api.SysRead, 0, 0).wants(0, nothing, event(api.EvInput, 0, 0, 0))
	c.InAt = 5
	c.with(api.SysRead, 0, 100).wants(0, nothing, event(api.EvInput, 0, 0, 0))
	c.InAt, c.Pages[1].Rights = 1, 1
	c.isBad(api.SysRead, 8192, 1)
	c.Pages[1].Rights = 2
	c.with(api.SysRead, 8446, 2).wants(2, reads, event(api.EvInput, 8446, 0, 2))
}

// P8.2: pages are mapped, unmapped and given rights, but for those of the heap.
func TestPageCalls(t *testing.T) {
	c := base(t)
	c.with(api.SysMap, 100, 2, 7).wants(0, func(w *api.World) { w.Pages = append(w.Pages, page(100, 7), page(101, 7)) }, event(api.EvMap, 100, 7, 2))
	c.with(api.SysUnmap, 32, 1, 7).wants(0, func(w *api.World) { w.Pages = slices.Delete(w.Pages, 1, 2) }, event(api.EvUnmap, 32, 0, 1))
	c.with(api.SysProtect, 32, 1, 0).wants(0, func(w *api.World) { w.Pages[1].Rights = 0 }, event(api.EvProtect, 32, 0, 1))
	c.with(api.SysProtect, 16, 1, 5).wants(0, func(w *api.World) { w.Pages[0].Rights = 5 }, event(api.EvProtect, 16, 5, 1))
	for _, number := range []uint32{api.SysMap, api.SysUnmap, api.SysProtect} {
		c.isBad(number, 64, 1, 3)
		c.isBad(number, 67, 1, 3)
		c.isBad(number, 32, 0, 3)
		c.isBad(number, 1<<24, 1, 3)
		c.isBad(number, 1<<32-1, 1, 3)
		c.isBad(number, 32, 1<<32-1, 3)
	}
	c.isBad(api.SysMap, 32, 1, 3)
	c.isBad(api.SysMap, 100, 1, 8)
	c.isBad(api.SysMap, 100, 1995, 3)
	c.isBad(api.SysUnmap, 33, 1, 3)
	c.isBad(api.SysProtect, 32, 2, 3)
	c.isBad(api.SysProtect, 32, 1, 8)
	c.isBad(api.SysProtect, 32, 1, 1<<32-1)
	// Pages next to those of the heap, and across its ends.
	c.Pages = slices.Insert(c.Pages, 2, page(63, 1))
	c.Pages = append(c.Pages, page(68, 1))
	c.isBad(api.SysUnmap, 63, 2)
	c.isBad(api.SysProtect, 67, 2, 1)
	c.isBad(api.SysUnmap, 63, 6)
	c.with(api.SysUnmap, 63, 1).wants(0, func(w *api.World) { w.Pages = slices.Delete(w.Pages, 2, 3) }, event(api.EvUnmap, 63, 0, 1))
	c.with(api.SysProtect, 68, 1, 2).wants(0, func(w *api.World) { w.Pages[7].Rights = 2 }, event(api.EvProtect, 68, 2, 1))
}

// P8.2: the number of a heap without pages is a page as any other.
func TestHeapWithoutPages(t *testing.T) {
	s := example()
	s.Heap = api.HeapConf{Page: 101}
	w := made(t, s).Save()
	w.Threads[0].CPU.PC = 4112
	c := called{w, t}
	c.with(api.SysMap, 100, 3, 3).wants(0, func(w *api.World) { w.Pages = append(w.Pages, page(100, 3), page(101, 3), page(102, 3)) }, event(api.EvMap, 100, 3, 3))
	c.with(api.SysAlloc, 1).wants(0, nothing)
}

// P8.2: threads that begin.
func TestSpawn(t *testing.T) {
	c := base(t)
	c.Threads[0].Mask, c.Threads[0].Sent, c.Threads[0].CPU.F = 36, []int{3}, 5
	var second api.Thread
	second.Status, second.Mask = api.ThReady, 36
	second.CPU.PC, second.CPU.R[15], second.CPU.R[1] = 11, 12, 13
	c.with(api.SysSpawn, 11, 12, 13).wants(1, func(w *api.World) { w.Threads = append(w.Threads, second) }, event(api.EvSpawn, 11, 12, 1))
	c.Threads = append(c.Threads, slices.Repeat([]api.Thread{{Status: api.ThDone}}, 6)...)
	c.with(api.SysSpawn, 11, 12, 13).wants(7, func(w *api.World) { w.Threads = append(w.Threads, second) }, event(api.EvSpawn, 11, 12, 7))
	c.Threads = append(c.Threads, api.Thread{Status: api.ThDone})
	c.isBad(api.SysSpawn, 11, 12, 13)
}

// P8.2: threads that leave, and those that wait for them.
func TestLeaveAndJoin(t *testing.T) {
	c := base(t)
	c.with(api.SysLeave).leaves(func(w *api.World) { w.Threads[0].Status, w.Ended = api.ThDone, true }, event(api.EvExit, 0, 0, 0), event(api.EvEnd, 0, 0, 0))
	c.Threads = append(c.Threads, api.Thread{Status: api.ThReady}, api.Thread{Status: api.ThDone})
	c.Locks = []api.Lock{{At: 3}, {At: 4, Owner: 1}, {At: 50}, {At: 1<<32 - 1}}
	c.Threads[0].Sent = []int{5}
	c.with(api.SysLeave).leaves(func(w *api.World) { w.Threads[0].Status, w.Locks = api.ThDone, w.Locks[1:2] },
		event(api.EvUnlock, 3, 0, 0), event(api.EvUnlock, 50, 0, 0), event(api.EvUnlock, 1<<32-1, 0, 0), event(api.EvExit, 0, 0, 0))
	c.isBad(api.SysJoin, 0)
	c.isBad(api.SysJoin, 3)
	c.isBad(api.SysJoin, 1<<32-1)
	c.with(api.SysJoin, 2).wants(0, nothing, event(api.EvJoin, 0, 0, 2))
	c.with(api.SysJoin, 1).leaves(func(w *api.World) { w.Threads[0].Status, w.Threads[0].W = api.ThJoin, 1 })
}

// P8.2: mutexes that are taken and given back.
func TestLockCalls(t *testing.T) {
	c := base(t)
	c.Threads = append(c.Threads, api.Thread{Status: api.ThReady})
	c.Locks = []api.Lock{{At: 3}, {At: 5, Owner: 1}}
	c.with(api.SysLock, 4).wants(0, func(w *api.World) { w.Locks = slices.Insert(w.Locks, 1, api.Lock{At: 4}) }, event(api.EvLock, 4, 0, 0))
	c.with(api.SysLock, 1<<32-1).wants(0, func(w *api.World) { w.Locks = append(w.Locks, api.Lock{At: 1<<32 - 1}) }, event(api.EvLock, 1<<32-1, 0, 0))
	c.isBad(api.SysLock, 3)
	waits := func(w *api.World) { w.Threads[0].Status, w.Threads[0].W = api.ThLock, 5 }
	c.with(api.SysLock, 5).leaves(waits)
	c.with(api.SysUnlock, 3).wants(0, func(w *api.World) { w.Locks = w.Locks[1:] }, event(api.EvUnlock, 3, 0, 0))
	c.isBad(api.SysUnlock, 5)
	c.isBad(api.SysUnlock, 4)
	for i := range 62 {
		c.Locks = append(c.Locks, api.Lock{At: uint32(100 + i)})
	}
	c.isBad(api.SysLock, 4)
	c.isBad(api.SysLock, 3)
	c.with(api.SysLock, 5).leaves(waits)
	c.Locks = c.Locks[:63]
	c.with(api.SysLock, 9).wants(0, func(w *api.World) { w.Locks = slices.Insert(w.Locks, 2, api.Lock{At: 9}) }, event(api.EvLock, 9, 0, 0))
}

// P8.2: handlers, and signals from thread to thread.
func TestSignalCalls(t *testing.T) {
	c := base(t)
	c.with(api.SysAction, 1, 5).wants(0, func(w *api.World) { w.Actions[0] = 5 })
	c.Actions[6] = 77
	c.with(api.SysAction, 7, 0).wants(77, func(w *api.World) { w.Actions[6] = 0 })
	c.isBad(api.SysAction, 0, 5)
	c.isBad(api.SysAction, 8, 5)
	c.isBad(api.SysAction, 1<<32-1, 5)
	c.Threads = append(c.Threads, api.Thread{Status: api.ThJoin, W: 0, Sent: slices.Repeat([]int{8}, 63)}, api.Thread{Status: api.ThDone})
	c.with(api.SysKill, 0, 8).wants(0, func(w *api.World) { w.Threads[0].Sent = []int{8} })
	c.with(api.SysKill, 1, 1).wants(0, func(w *api.World) { w.Threads[1].Sent = append(w.Threads[1].Sent, 1) })
	c.isBad(api.SysKill, 0, 0)
	c.isBad(api.SysKill, 0, 9)
	c.isBad(api.SysKill, 2, 1)
	c.isBad(api.SysKill, 3, 1)
	c.isBad(api.SysKill, 1<<32-1, 1)
	c.Threads[1].Sent = append(c.Threads[1].Sent, 8)
	c.isBad(api.SysKill, 1, 1)
}

// P8.2: what comes back from a handler, also from a frame that no handler has left.
func TestReturn(t *testing.T) {
	c := base(t)
	c.Threads[0].CPU.R[15] = 8448 - 204
	for i := range 204 {
		c.Pages[1].B[52+i] = byte(i)
	}
	word := func(k int) uint32 { return uint32(4*k) * 0x01010101 & 0xfcfcfcfc + 0x03020100 }
	c.with(api.SysReturn).leaves(func(w *api.World) {
		t := &w.Threads[0]
		for i := range 16 {
			t.CPU.R[i] = word(i)
		}
		t.CPU.PC, t.CPU.F, t.Mask = word(16), 68%16, 72%128
		for i := range 32 {
			t.CPU.V[i/4][i%4] = word(19 + i)
		}
	}, event(api.EvLoad, 8244, 0, 204), event(api.EvReturn, word(16), 0, 0))
	c.Pages[1].B[52+68], c.Pages[1].B[52+72] = 0xff, 0xff
	m := loaded(t, c.with(api.SysReturn).World)
	if _, err := m.Trap(0, api.Trap{Kind: api.TrSys}); err != api.OK {
		t.Fatalf("Trap: %d", err)
	}
	if th := m.Save().Threads[0]; th.CPU.F != 15 || th.Mask != 127 {
		t.Errorf("flags %d, mask %d", th.CPU.F, th.Mask)
	}
	ends := func(w *api.World) { w.Ended, w.Sig = true, api.SigSegv }
	c.Threads[0].CPU.R[15]++
	c.with(api.SysReturn).leaves(ends, event(api.EvSignal, 0, 0, api.SigSegv), event(api.EvEnd, api.SigSegv, 0, 0))
	c.Threads[0].CPU.R[15]--
	c.Actions[0] = 4096
	c.Pages[1].Rights = 6
	c.with(api.SysReturn).leaves(ends, event(api.EvSignal, 0, 0, api.SigSegv), event(api.EvEnd, api.SigSegv, 0, 0))
}

// P8.2: blocks that are given out, taken back and resized, with their bytes.
func TestHeapCalls(t *testing.T) {
	c := base(t)
	block := func(at uint32, size, born int) api.Piece { return api.Piece{At: at, Size: size, Born: born} }
	c.with(api.SysAlloc, 20).wants(16424, func(w *api.World) { w.Heap.Live, w.Heap.Given = append(w.Heap.Live, block(16424, 20, 2)), 2 }, event(api.EvAlloc, 16424, 0, 20))
	c.with(api.SysAlloc, 0).wants(16424, func(w *api.World) { w.Heap.Live, w.Heap.Given = append(w.Heap.Live, block(16424, 0, 2)), 2 }, event(api.EvAlloc, 16424, 0, 0))
	c.with(api.SysAlloc, 1024).wants(0, nothing)
	c.with(api.SysAlloc, 1<<32-1).wants(0, nothing)
	c.with(api.SysFree, 16392).wants(0, func(w *api.World) { w.Heap.Live = nil }, event(api.EvFree, 16392, 0, 10))
	c.isBad(api.SysFree, 16393)
	c.isBad(api.SysFree, 0)
	c.with(api.SysSize, 16392).wants(10, nothing)
	c.isBad(api.SysSize, 16391)
	copy(c.Pages[2].B, []byte{16: 16, 17: 17, 18: 18, 19: 19, 39: 39, 40: 40, 44: 44})
	resized := func(n, size int) func(w *api.World) {
		return func(w *api.World) {
			w.Heap.Live, w.Heap.Given = []api.Piece{block(16424, size, 2)}, 2
			copy(w.Pages[2].B[40:], w.Pages[2].B[8:8+n])
		}
	}
	freed := event(api.EvFree, 16392, 0, 10)
	c.with(api.SysResize, 16392, 9).wants(16424, resized(9, 9), event(api.EvAlloc, 16424, 0, 9), freed)
	c.with(api.SysResize, 16392, 100).wants(16424, resized(10, 100), event(api.EvAlloc, 16424, 0, 100), freed)
	c.with(api.SysResize, 16392, 0).wants(16424, resized(0, 0), event(api.EvAlloc, 16424, 0, 0), freed)
	c.with(api.SysResize, 16391, 9).wants(0, nothing)
	c.with(api.SysResize, 16392, 65537).wants(0, nothing)
	c.with(api.SysResize, 16392, 2000).wants(0, nothing)
	c.Heap.Conf.Quarantine = 10
	c.with(api.SysFree, 16392).wants(0, func(w *api.World) { w.Heap.Live, w.Heap.Quar = nil, w.Heap.Live }, freed)
}

// P8.2: a request is answered with 0.
func TestRequest(t *testing.T) {
	w := base(t).with(7, 8).World
	m := loaded(t, w)
	events, err := m.Trap(0, api.Trap{Kind: api.TrReq})
	if err != api.OK {
		t.Fatalf("Trap: %d", err)
	}
	wantEvents(t, events, event(api.EvRequest, 7, 8, 0))
	w.Threads[0].CPU.R[0] = 0
	wantSame(t, m, w)
}
