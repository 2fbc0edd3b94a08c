package cpu

import (
	"candling/api"
	"candling/mem"
)

// step is an instruction that is being carried out. It changes memory behind all that can fail, so that a fault leaves memory as it was.
type step struct {
	api.CPU  // as the instruction has changed it up to now
	api.Insn // the instruction
	memory   *mem.Mem
	at       uint32   // where the instruction stands; PC is behind it
	trap     api.Trap // TrSys or TrReq, if it ends in one of them
	events   []api.Event
}

// fault is what a step panics with if it ends in a trap that leaves everything as it was.
type fault struct{ api.Trap }

// leave leaves the step with such a trap.
func leave(kind int, addr uint32) { panic(fault{api.Trap{Kind: kind, Addr: addr}}) }

// must leaves the step with a trap unless a condition holds.
func must(ok bool, kind int, addr uint32) {
	if !ok {
		leave(kind, addr)
	}
}

func (s *step) carryOut() {
	x, n, trap := Fetch(s.PC, s.memory)
	must(trap.Kind == api.TrNone, trap.Kind, trap.Addr)
	s.Insn, s.at = x, s.PC
	s.PC += uint32(n)
	s.note(api.Event{Kind: api.EvExec, N: n})
	doingOf(x.Op)(s)
}

// note adds an event of the instruction.
func (s *step) note(e api.Event) {
	e.PC = s.at
	s.events = append(s.events, e)
}

func (s *step) setA(w uint32) { s.R[s.A] = w }

// constant returns K as a word.
func (s *step) constant() uint32 { return uint32(s.K) }

// calculate returns the result of an operation of two words, and sets the flags, if the operation has flags.
func (s *step) calculate(op int, a, b uint32) uint32 {
	o := operationOf(op)
	must(!o.divides || b != 0, api.TrDiv, 0)
	r, flags := o.calculate(a, b, uint32(s.F&api.FlC/api.FlC))
	if o.setsFlags {
		s.F = flags
	}
	return r
}

// choose returns one of two words, as the condition D says.
func (s *step) choose(ifHolds, otherwise uint32) uint32 {
	if Holds(s.D, s.F) {
		return ifHolds
	}
	return otherwise
}

// placeOf returns where an instruction loads and stores, if it does.
func placeOf(c api.CPU, x api.Insn) uint32 {
	switch x.Op {
	case api.OpPush, api.OpCall, api.OpCallR:
		return c.R[api.SP] - 4
	case api.OpPop, api.OpRet:
		return c.R[api.SP]
	case api.OpLoadI, api.OpStoreI:
		return c.R[x.B] + x.I
	}
	return c.R[x.B] + uint32(x.K)
}

// loadBytes loads n bytes at the instruction's place.
func (s *step) loadBytes(n int) []byte {
	at := placeOf(s.CPU, s.Insn)
	b, bad, ok := s.memory.Read(at, n)
	must(ok, api.TrSegv, bad)
	s.note(api.Event{Kind: api.EvLoad, A: at, N: n})
	return b
}

// storeBytes stores bytes there.
func (s *step) storeBytes(b []byte) {
	at := placeOf(s.CPU, s.Insn)
	bad, ok := s.memory.Write(at, b)
	must(ok, api.TrSegv, bad)
	s.note(api.Event{Kind: api.EvStore, A: at, N: len(b)})
}

// load loads a word of n bytes there.
func (s *step) load(n int) uint32 { return wordOf(s.loadBytes(n)) }

// store stores the lowest n bytes of a word there.
func (s *step) store(w uint32, n int) { s.storeBytes(bytesOf(w)[:n]) }

// exchange loads the word there, stores what next makes of it, unless next says that nothing is stored, and returns what it has loaded.
func (s *step) exchange(next func(old uint32) (w uint32, isStored bool)) uint32 {
	at := placeOf(s.CPU, s.Insn)
	b, bad, ok := s.memory.Both(at, 4)
	must(ok, api.TrSegv, bad)
	old := wordOf(b)
	if w, isStored := next(old); isStored {
		s.memory.Write(at, bytesOf(w))
	}
	s.note(api.Event{Kind: api.EvAtomic, A: at, N: 4})
	return old
}

// wordOf returns the word that bytes are, the lowest one first.
func wordOf(b []byte) uint32 {
	w := uint32(0)
	for i, x := range b {
		w |= uint32(x) << (8 * i)
	}
	return w
}

func bytesOf(w uint32) []byte {
	return []byte{byte(w), byte(w >> 8), byte(w >> 16), byte(w >> 24)}
}
