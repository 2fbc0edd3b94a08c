package kern

import (
	"candling/api"
	"candling/heap"
)

func (u *turn) yield() (uint32, bool) { return 0, true }

func (u *turn) clock() (uint32, bool) { return uint32(u.machine.world.Steps), true }

// write outputs r2 bytes at r1.
func (u *turn) write() (uint32, bool) {
	w, at, n := &u.machine.world, u.CPU.R[1], int(u.CPU.R[2])
	b, _, ok := u.machine.memory.Read(at, n)
	if !ok || len(w.Out)+n > api.MaxOut {
		return u.bad()
	}
	w.Out = append(w.Out, b...)
	u.see(api.Event{Kind: api.EvOutput, A: at, N: n})
	return uint32(n), true
}

// read stores up to r2 bytes of input at r1.
func (u *turn) read() (uint32, bool) {
	w, at := &u.machine.world, u.CPU.R[1]
	n := min(int(u.CPU.R[2]), len(w.In)-w.InAt)
	if _, ok := u.machine.memory.Write(at, w.In[w.InAt:w.InAt+n]); !ok {
		return u.bad()
	}
	w.InAt += n
	u.see(api.Event{Kind: api.EvInput, A: at, N: n})
	return uint32(n), true
}

func (u *turn) mapPages() (uint32, bool) {
	rights := u.CPU.R[3]
	return u.changePages(api.EvMap, rights, func(page, n int) api.Errno {
		return u.machine.memory.Map(page, n, int(rights))
	})
}

func (u *turn) unmapPages() (uint32, bool) {
	return u.changePages(api.EvUnmap, 0, u.machine.memory.Unmap)
}

func (u *turn) protectPages() (uint32, bool) {
	rights := u.CPU.R[3]
	return u.changePages(api.EvProtect, rights, func(page, n int) api.Errno {
		return u.machine.memory.Protect(page, n, int(rights))
	})
}

// changePages makes a change of r2 pages from page r1 on, unless the heap has one of them.
func (u *turn) changePages(kind int, rights uint32, change func(page, n int) api.Errno) (uint32, bool) {
	page, n := int(u.CPU.R[1]), int(u.CPU.R[2])
	if meetsHeap(u.machine.world.Heap.Conf, page, n) || change(page, n) != api.OK {
		return u.bad()
	}
	u.see(api.Event{Kind: kind, A: uint32(page), N: n, B: rights})
	return 0, true
}

// setAction sets the handler of signal r1 to r2.
func (u *turn) setAction() (uint32, bool) {
	w, sig, handler := &u.machine.world, u.CPU.R[1], u.CPU.R[2]
	if sig < 1 || sig >= api.SigKill {
		return u.bad()
	}
	old := w.Actions[sig-1]
	w.Actions[sig-1] = handler
	return old, true
}

// setMask blocks the signals whose bits are in r1, and no others.
func (u *turn) setMask() (uint32, bool) {
	old := u.Mask
	u.Mask = int(u.CPU.R[1] & mostMask)
	return uint32(old), true
}

// kill sends signal r2 to thread r1.
func (u *turn) kill() (uint32, bool) {
	number, sig := int(u.CPU.R[1]), int(u.CPU.R[2])
	if !u.machine.hasThread(number) || !isWithin(sig, 1, api.MaxSig) {
		return u.bad()
	}
	if !u.machine.threads[number].send(sig) {
		return u.bad()
	}
	return 0, true
}

// comeBack restores the frame at r[SP].
func (u *turn) comeBack() (uint32, bool) {
	at := u.CPU.R[api.SP]
	b, _, ok := u.machine.memory.Read(at, api.FrameLen)
	if !ok {
		u.endBy(api.SigSegv)
	}
	f := frameIn(b)
	u.see(api.Event{Kind: api.EvLoad, A: at, N: api.FrameLen})
	u.see(api.Event{Kind: api.EvReturn, A: f.pc})
	u.CPU, u.Mask = f.cpu(), int(f.mask&mostMask)
	return 0, false
}

// alloc gives out a block of r1 bytes.
func (u *turn) alloc() (uint32, bool) {
	w, size := &u.machine.world, int(u.CPU.R[1])
	h, at, err := heap.Alloc(w.Heap, size)
	if err != api.OK {
		return 0, true
	}
	w.Heap = h
	u.see(api.Event{Kind: api.EvAlloc, A: at, N: size})
	return at, true
}

// free takes back the block at r1.
func (u *turn) free() (uint32, bool) {
	w, at := &u.machine.world, u.CPU.R[1]
	size, err := heap.Size(w.Heap, at)
	if err != api.OK {
		return u.bad()
	}
	h, err := heap.Free(w.Heap, at)
	if err != api.OK {
		return u.bad()
	}
	w.Heap = h
	u.see(api.Event{Kind: api.EvFree, A: at, N: size})
	return 0, true
}

// size returns the size of the block at r1.
func (u *turn) size() (uint32, bool) {
	size, err := heap.Size(u.machine.world.Heap, u.CPU.R[1])
	if err != api.OK {
		return u.bad()
	}
	return uint32(size), true
}

// resize gives the block at r1 r2 bytes, elsewhere.
func (u *turn) resize() (uint32, bool) {
	w, at, size := &u.machine.world, u.CPU.R[1], int(u.CPU.R[2])
	h, to, err := heap.Resize(w.Heap, at, size)
	if err != api.OK {
		return 0, true
	}
	old, _ := heap.Size(w.Heap, at)
	b, _, _ := u.machine.memory.Peek(at, min(old, size))
	u.machine.memory.Poke(to, b)
	w.Heap = h
	u.see(api.Event{Kind: api.EvAlloc, A: to, N: size})
	u.see(api.Event{Kind: api.EvFree, A: at, N: old})
	return to, true
}
