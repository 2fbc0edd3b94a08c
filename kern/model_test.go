package kern_test

import (
	"cmp"
	"encoding/binary"
	"slices"

	"candling/api"
	"candling/cpu"
	"candling/heap"
	"candling/kern"
	"candling/mem"
)

// machine is what a machine and its model have in common.
type machine interface {
	Save() api.World
	Can() []int
	Ended() bool
	Do(t api.Turn) ([]api.Event, int, api.Errno)
	Run(l []api.Turn) ([]api.Event, int, api.Errno)
	Wake(thread int) ([]api.Event, bool, api.Errno)
	Deliver(thread int) ([]api.Event, bool, api.Errno)
	Trap(thread int, t api.Trap) ([]api.Event, api.Errno)
	Send(thread, sig int) api.Errno
	CPU(thread int) (api.CPU, api.Errno)
	Put(thread int, c api.CPU, steps int) api.Errno
	Mem() *mem.Mem
}

var _ machine = (*kern.Machine)(nil)

// model does what the chapter says in the plainest way: nothing leaves early, and nothing is shared.
type model struct {
	w      api.World // its pages are in m
	m      *mem.Mem
	events []api.Event // of this call
	sees   func(key string)
}

func newModel(w api.World) *model {
	w = copied(w)
	m, _ := mem.Load(w.Pages)
	return &model{w: w, m: m, sees: func(string) {}}
}

func (x *model) Save() api.World {
	w := copied(x.w)
	w.Pages = x.m.Save()
	return w
}

func (x *model) Ended() bool   { return x.w.Ended }
func (x *model) Mem() *mem.Mem { return x.m }

func (x *model) has(thread int) bool { return thread >= 0 && thread < len(x.w.Threads) }

func (x *model) owner(mutex uint32) int {
	for _, l := range x.w.Locks {
		if l.At == mutex {
			return l.Owner
		}
	}
	return -1
}

func (x *model) waitCanEnd(i int) bool {
	t := x.w.Threads[i]
	return t.Status == api.ThJoin && x.w.Threads[t.W].Status == api.ThDone ||
		t.Status == api.ThLock && x.owner(t.W) < 0 && len(x.w.Locks) < 64
}

func (x *model) Can() []int {
	var l []int
	for i, t := range x.w.Threads {
		if !x.w.Ended && (t.Status == api.ThReady || x.waitCanEnd(i)) {
			l = append(l, i)
		}
	}
	return l
}

// told returns the events since the call began.
func (x *model) told() []api.Event {
	l := x.events
	x.events = nil
	return l
}

func (x *model) Do(t api.Turn) ([]api.Event, int, api.Errno) {
	switch {
	case x.w.Ended:
		return nil, 0, api.ErrState
	case !x.has(t.Thread) || t.Steps < 0 || t.Steps > 200000 || t.Sig < 0 || t.Sig > 8:
		return nil, 0, api.ErrArg
	case x.w.Steps > 1000000000-t.Steps:
		return nil, 0, api.ErrLimit
	}
	if t.Sig != 0 {
		x.send(t.Thread, t.Sig)
	}
	x.wake(t.Thread)
	steps := 0
	for ; steps < t.Steps && x.goesOn(t.Thread); steps++ {
		for x.deliverOne(t.Thread) {
		}
		if x.w.Ended {
			break
		}
		x.step(t.Thread)
	}
	return x.told(), steps, api.OK
}

func (x *model) Run(l []api.Turn) ([]api.Event, int, api.Errno) {
	var all []api.Event
	turns := 0
	for turns < len(l) && !x.w.Ended {
		events, _, err := x.Do(l[turns])
		if err != api.OK {
			return all, turns, err
		}
		all = append(all, events...)
		turns++
	}
	return all, turns, api.OK
}

func (x *model) goesOn(i int) bool { return !x.w.Ended && x.w.Threads[i].Status == api.ThReady }

func (x *model) thread(i int) *api.Thread { return &x.w.Threads[i] }

func (x *model) step(i int) {
	c, trap, events := cpu.Step(x.thread(i).CPU, x.m)
	x.thread(i).CPU = c
	for _, e := range events {
		e.Thread = i
		x.events = append(x.events, e)
	}
	x.w.Steps++
	x.follow(i, trap)
}

// event adds an event of a thread, where it is.
func (x *model) event(i, kind int, a, b uint32, n int) {
	x.events = append(x.events, api.Event{Kind: kind, Thread: i, PC: x.thread(i).CPU.PC, A: a, B: b, N: n})
}

func (x *model) send(i, sig int) {
	if t := x.thread(i); t.Status != api.ThDone && len(t.Sent) < 64 {
		t.Sent = append(t.Sent, sig)
	}
}

func (x *model) wake(i int) {
	if !x.waitCanEnd(i) {
		return
	}
	t := x.thread(i)
	call := uint32(8)
	if t.Status == api.ThJoin {
		x.event(i, api.EvJoin, 0, 0, int(t.W))
	} else {
		x.take(i, t.W)
		call = 10
	}
	t.Status, t.W, t.CPU.R[0] = api.ThReady, 0, 0
	x.event(i, api.EvSys, call, 0, 0)
}

func (x *model) take(i int, mutex uint32) {
	x.w.Locks = append(x.w.Locks, api.Lock{At: mutex, Owner: i})
	slices.SortFunc(x.w.Locks, func(a, b api.Lock) int { return cmp.Compare(a.At, b.At) })
	x.event(i, api.EvLock, mutex, 0, 0)
}

func (x *model) deliverOne(i int) bool {
	if !x.goesOn(i) {
		return false
	}
	t := x.thread(i)
	for k, sig := range t.Sent {
		if sig == 8 || t.Mask&(1<<(sig-1)) == 0 {
			t.Sent = slices.Concat(t.Sent[:k], t.Sent[k+1:])
			x.deliver(i, sig, 0)
			return true
		}
	}
	return false
}

func (x *model) end(i, code, sig int) {
	x.w.Ended, x.w.Code, x.w.Sig = true, code, sig
	x.event(i, api.EvEnd, uint32(sig), 0, code)
}

func (x *model) endBy(i, sig int) {
	x.event(i, api.EvSignal, 0, 0, sig)
	x.end(i, 0, sig)
}

func (x *model) deliver(i, sig int, addr uint32) {
	t, handler := x.thread(i), x.w.Actions[sig-1]
	if handler == 0 {
		x.sees("no handler")
		x.endBy(i, sig)
		return
	}
	l := append(slices.Clone(t.CPU.R[:]), t.CPU.PC, uint32(t.CPU.F), uint32(t.Mask))
	for _, v := range t.CPU.V {
		l = append(l, v[:]...)
	}
	var b []byte
	for _, w := range l {
		b = binary.LittleEndian.AppendUint32(b, w)
	}
	at := t.CPU.R[15] - 204
	if _, ok := x.m.Write(at, b); !ok {
		x.sees("no frame")
		x.endBy(i, api.SigSegv)
		return
	}
	x.sees("handler")
	x.event(i, api.EvStore, at, 0, 204)
	x.event(i, api.EvSignal, handler, 0, sig)
	t.CPU.R[1], t.CPU.R[2], t.CPU.R[15], t.CPU.PC = uint32(sig), addr, at, handler
	t.Mask |= 1 << (sig - 1)
}

func (x *model) follow(i int, trap api.Trap) {
	t := x.thread(i)
	switch trap.Kind {
	case api.TrSys:
		x.call(i)
	case api.TrReq:
		x.event(i, api.EvRequest, t.CPU.R[0], t.CPU.R[1], 0)
		t.CPU.R[0] = 0
	case api.TrSegv, api.TrAlign:
		x.raise(i, api.SigSegv, trap.Addr)
	case api.TrIll:
		x.raise(i, api.SigIll, t.CPU.PC)
	case api.TrDiv:
		x.raise(i, api.SigDiv, t.CPU.PC)
	case api.TrBreak:
		x.raise(i, api.SigBreak, t.CPU.PC)
	}
}

func (x *model) raise(i, sig int, addr uint32) {
	if x.thread(i).Mask&(1<<(sig-1)) != 0 {
		x.sees("blocked")
		x.endBy(i, sig)
		return
	}
	x.deliver(i, sig, addr)
}

func (x *model) Wake(thread int) ([]api.Event, bool, api.Errno) {
	if x.w.Ended {
		return nil, false, api.ErrState
	}
	if !x.has(thread) {
		return nil, false, api.ErrArg
	}
	x.wake(thread)
	return x.told(), x.goesOn(thread), api.OK
}

func (x *model) Deliver(thread int) ([]api.Event, bool, api.Errno) {
	if x.w.Ended {
		return nil, false, api.ErrState
	}
	if !x.has(thread) {
		return nil, false, api.ErrArg
	}
	is := x.deliverOne(thread)
	return x.told(), is, api.OK
}

func (x *model) Trap(thread int, t api.Trap) ([]api.Event, api.Errno) {
	isStep := t.Kind != api.TrNone && t.Kind != api.TrSys && t.Kind != api.TrReq
	switch {
	case x.w.Ended:
		return nil, api.ErrState
	case !x.has(thread) || t.Kind < 0 || t.Kind > 7:
		return nil, api.ErrArg
	case x.thread(thread).Status != api.ThReady:
		return nil, api.ErrState
	case isStep && x.w.Steps == 1000000000:
		return nil, api.ErrLimit
	case isStep:
		x.w.Steps++
	}
	x.follow(thread, t)
	return x.told(), api.OK
}

func (x *model) Send(thread, sig int) api.Errno {
	switch {
	case x.w.Ended:
		return api.ErrState
	case !x.has(thread) || sig < 1 || sig > 8:
		return api.ErrArg
	}
	x.send(thread, sig)
	return api.OK
}

func (x *model) CPU(thread int) (api.CPU, api.Errno) {
	if !x.has(thread) {
		return api.CPU{}, api.ErrArg
	}
	return x.thread(thread).CPU, api.OK
}

func (x *model) Put(thread int, c api.CPU, steps int) api.Errno {
	switch {
	case x.w.Ended:
		return api.ErrState
	case !x.has(thread):
		return api.ErrArg
	case x.thread(thread).Status != api.ThReady:
		return api.ErrState
	case c.F < 0 || c.F > 15 || steps < 0 || steps > 200000:
		return api.ErrArg
	case x.w.Steps > 1000000000-steps:
		return api.ErrLimit
	}
	x.thread(thread).CPU = c
	x.w.Steps += steps
	return api.OK
}

// Results of a system call that are no numbers.
const (
	bad      = int(api.SysBad)
	noResult = -1
)

// call makes a system call, and returns from it, if it does.
func (x *model) call(i int) {
	number := x.thread(i).CPU.R[0]
	result := x.result(i, number)
	x.sees(outcome(number, result))
	if result != noResult {
		x.thread(i).CPU.R[0] = uint32(result)
		x.event(i, api.EvSys, number, uint32(result), 0)
	}
}

// result makes a system call that may return.
func (x *model) result(i int, number uint32) int {
	r := x.thread(i).CPU.R
	a, b, c := r[1], r[2], r[3]
	switch number {
	case 0:
		x.end(i, int(a), 0)
		return noResult
	case 1:
		return x.leave(i)
	case 2, 3:
		return x.transfer(i, number == 2, a, int(b))
	case 4, 5, 6:
		return x.change(i, int(number), int(a), int(b), int(c))
	case 7:
		return x.spawn(i, a, b, c)
	case 8:
		return x.join(i, int(a))
	case 9:
		return 0
	case 10:
		return x.lock(i, a)
	case 11:
		if x.owner(a) != i {
			return bad
		}
		x.giveBack(i, a)
		return 0
	case 12:
		if a < 1 || a > 7 {
			return bad
		}
		old := x.w.Actions[a-1]
		x.w.Actions[a-1] = b
		return int(old)
	case 13:
		return x.comeBack(i, r[15])
	case 14:
		if !x.has(int(a)) || x.thread(int(a)).Status == api.ThDone || b < 1 || b > 8 || len(x.thread(int(a)).Sent) >= 64 {
			return bad
		}
		x.send(int(a), int(b))
		return 0
	case 15:
		old := x.thread(i).Mask
		x.thread(i).Mask = int(a % 128)
		return old
	case 19:
		return x.w.Steps
	}
	return x.heapResult(i, number, a, int(b))
}

// heapResult makes a call about the heap.
func (x *model) heapResult(i int, number, a uint32, b int) int {
	size, _ := heap.Size(x.w.Heap, a)
	var h api.Heap
	var to uint32
	err := api.ErrArg
	result := bad
	switch number {
	case 16:
		h, to, err = heap.Alloc(x.w.Heap, int(a))
		if err == api.OK {
			x.event(i, api.EvAlloc, to, 0, int(a))
		}
		result = int(to)
	case 17:
		h, err = heap.Free(x.w.Heap, a)
		if err == api.OK {
			x.event(i, api.EvFree, a, 0, size)
			result = 0
		}
	case 18:
		h = x.w.Heap
		size, err = heap.Size(x.w.Heap, a)
		if err == api.OK {
			result = size
		}
	case 20:
		h, to, err = heap.Resize(x.w.Heap, a, b)
		if err == api.OK {
			bytes, _, _ := x.m.Peek(a, min(size, b))
			x.m.Poke(to, bytes)
			x.event(i, api.EvAlloc, to, 0, b)
			x.event(i, api.EvFree, a, 0, size)
		}
		result = int(to)
	}
	if err == api.OK {
		x.w.Heap = h
	}
	return result
}

func (x *model) leave(i int) int {
	x.thread(i).Status = api.ThDone
	for _, l := range slices.Clone(x.w.Locks) {
		if l.Owner == i {
			x.giveBack(i, l.At)
		}
	}
	x.event(i, api.EvExit, 0, 0, 0)
	for _, t := range x.w.Threads {
		if t.Status != api.ThDone {
			return noResult
		}
	}
	x.end(i, 0, 0)
	return noResult
}

func (x *model) giveBack(i int, mutex uint32) {
	x.w.Locks = slices.DeleteFunc(slices.Clone(x.w.Locks), func(l api.Lock) bool { return l.At == mutex })
	x.event(i, api.EvUnlock, mutex, 0, 0)
}

// transfer is output, or input.
func (x *model) transfer(i int, isOutput bool, at uint32, n int) int {
	if isOutput {
		b, _, ok := x.m.Read(at, n)
		if !ok || n > 65536 || len(x.w.Out)+n > 65536 {
			return bad
		}
		x.w.Out = slices.Concat(x.w.Out, b)
		x.event(i, api.EvOutput, at, 0, n)
		return n
	}
	rest := x.w.In[x.w.InAt:]
	if n < len(rest) {
		rest = rest[:n]
	}
	if _, ok := x.m.Write(at, rest); !ok {
		return bad
	}
	x.w.InAt += len(rest)
	x.event(i, api.EvInput, at, 0, len(rest))
	return len(rest)
}

// change changes pages.
func (x *model) change(i, number, page, n, rights int) int {
	for k := range x.w.Heap.Conf.N {
		if heapPage := x.w.Heap.Conf.Page + k; heapPage >= page && heapPage-page < n {
			return bad
		}
	}
	var err api.Errno
	kind := api.EvMap
	switch number {
	case 4:
		err = x.m.Map(page, n, rights)
	case 5:
		err = x.m.Unmap(page, n)
		kind, rights = api.EvUnmap, 0
	case 6:
		err = x.m.Protect(page, n, rights)
		kind = api.EvProtect
	}
	if err != api.OK {
		return bad
	}
	x.event(i, kind, uint32(page), uint32(rights), n)
	return 0
}

func (x *model) spawn(i int, pc, sp, argument uint32) int {
	n := len(x.w.Threads)
	if n == 8 {
		return bad
	}
	var t api.Thread
	t.Status, t.Mask = api.ThReady, x.thread(i).Mask
	t.CPU.PC, t.CPU.R[15], t.CPU.R[1] = pc, sp, argument
	x.w.Threads = append(x.w.Threads, t)
	x.event(i, api.EvSpawn, pc, sp, n)
	return n
}

func (x *model) join(i, other int) int {
	if !x.has(other) || other == i {
		return bad
	}
	if x.thread(other).Status != api.ThDone {
		x.thread(i).Status, x.thread(i).W = api.ThJoin, uint32(other)
		return noResult
	}
	x.event(i, api.EvJoin, 0, 0, other)
	return 0
}

func (x *model) lock(i int, mutex uint32) int {
	switch owner := x.owner(mutex); {
	case owner == i || owner < 0 && len(x.w.Locks) == 64:
		return bad
	case owner >= 0:
		x.thread(i).Status, x.thread(i).W = api.ThLock, mutex
		return noResult
	}
	x.take(i, mutex)
	return 0
}

func (x *model) comeBack(i int, at uint32) int {
	b, _, ok := x.m.Read(at, 204)
	if !ok {
		x.endBy(i, api.SigSegv)
		return noResult
	}
	word := func(k int) uint32 { return binary.LittleEndian.Uint32(b[4*k:]) }
	x.event(i, api.EvLoad, at, 0, 204)
	x.event(i, api.EvReturn, word(16), 0, 0)
	t := x.thread(i)
	for k := range 16 {
		t.CPU.R[k] = word(k)
	}
	t.CPU.PC, t.CPU.F, t.Mask = word(16), int(word(17)%16), int(word(18)%128)
	for k := range 32 {
		t.CPU.V[k/4][k%4] = word(19 + k)
	}
	return noResult
}
