package cpu

import "candling/api"

// doingOf returns what carries out the instructions of an operation.
func doingOf(op int) func(*step) {
	switch {
	case op >= api.OpAdd && op <= api.OpSbb:
		return (*step).combineWords
	case op >= api.OpVAdd && op <= api.OpVShuf:
		return (*step).combineVectors
	}
	return doings()[op]
}

// doings returns, by operation, what carries out the instructions of those that are no operations of two words or of two vectors.
func doings() [api.MaxOp + 1]func(*step) {
	return [api.MaxOp + 1]func(*step){
		api.OpNop:     func(s *step) {},
		api.OpMov:     func(s *step) { s.setA(s.R[s.B]) },
		api.OpAddK:    func(s *step) { s.setA(s.calculate(api.OpAdd, s.R[s.B], s.constant())) },
		api.OpNeg:     func(s *step) { s.setA(s.calculate(api.OpSub, 0, s.R[s.B])) },
		api.OpNot:     func(s *step) { s.setA(^s.R[s.B]) },
		api.OpExt:     (*step).extend,
		api.OpCmp:     func(s *step) { s.calculate(api.OpSub, s.R[s.B], s.R[s.C]) },
		api.OpTest:    func(s *step) { s.calculate(api.OpAnd, s.R[s.B], s.R[s.C]) },
		api.OpCmpK:    func(s *step) { s.calculate(api.OpSub, s.R[s.B], s.constant()) },
		api.OpSel:     func(s *step) { s.setA(s.choose(s.R[s.B], s.R[s.C])) },
		api.OpSetC:    func(s *step) { s.setA(s.choose(1, 0)) },
		api.OpLoad8:   func(s *step) { s.setA(s.load(1)) },
		api.OpLoad16:  func(s *step) { s.setA(s.load(2)) },
		api.OpLoad32:  func(s *step) { s.setA(s.load(4)) },
		api.OpLoad8S:  func(s *step) { s.setA(uint32(int8(s.load(1)))) },
		api.OpStore8:  func(s *step) { s.store(s.R[s.A], 1) },
		api.OpStore16: func(s *step) { s.store(s.R[s.A], 2) },
		api.OpStore32: func(s *step) { s.store(s.R[s.A], 4) },
		api.OpPush:    func(s *step) { s.push(s.R[s.A]) },
		api.OpPop:     func(s *step) { s.setA(s.pop()) },
		api.OpSwap:    (*step).swap,
		api.OpCas:     (*step).compareAndStore,
		api.OpFadd:    (*step).fetchAndAdd,
		api.OpFence:   func(s *step) {},
		api.OpJmpR:    func(s *step) { s.PC = s.R[s.B] },
		api.OpCallR:   func(s *step) { s.call(s.R[s.B]) },
		api.OpRet:     (*step).comeBack,
		api.OpSys:     func(s *step) { s.trap.Kind = api.TrSys },
		api.OpReq:     func(s *step) { s.trap.Kind = api.TrReq },
		api.OpBrk:     func(s *step) { leave(api.TrBreak, 0) },
		api.OpGetF:    func(s *step) { s.setA(uint32(s.F)) },
		api.OpSetF:    func(s *step) { s.F = int(s.R[s.B] & allFlags) },
		api.OpVLoad:   (*step).loadVector,
		api.OpVStore:  (*step).storeVector,
		api.OpVMov:    func(s *step) { s.V[s.A] = s.V[s.B] },
		api.OpVIn:     func(s *step) { s.V[s.A][s.D] = s.R[s.B] },
		api.OpVOut:    func(s *step) { s.setA(s.V[s.B][s.D]) },
		api.OpVSplat:  (*step).splat,
		api.OpVMask:   func(s *step) { s.setA(Mask(s.V[s.B])) },
		api.OpSet:     func(s *step) { s.setA(s.I) },
		api.OpAddI:    func(s *step) { s.setA(s.calculate(api.OpAdd, s.R[s.B], s.I)) },
		api.OpJmp:     func(s *step) { s.PC = s.I },
		api.OpJcc:     (*step).branch,
		api.OpCall:    func(s *step) { s.call(s.I) },
		api.OpLoadI:   func(s *step) { s.setA(s.load(4)) },
		api.OpStoreI:  func(s *step) { s.store(s.R[s.A], 4) },
		api.OpLea:     func(s *step) { s.setA(s.R[s.B] + s.R[s.C]<<s.D + s.I) },
		api.OpCmpI:    func(s *step) { s.calculate(api.OpSub, s.R[s.B], s.I) },
	}
}

func (s *step) combineWords() { s.setA(s.calculate(s.Op, s.R[s.B], s.R[s.C])) }

func (s *step) combineVectors() {
	v, _ := Lanes(s.Op, s.D, s.V[s.B], s.V[s.C])
	s.V[s.A] = v
}

func (s *step) extend() {
	w, _ := Extend(s.D, s.R[s.B])
	s.setA(w)
}

func (s *step) push(w uint32) {
	s.store(w, 4)
	s.R[api.SP] -= 4
}

func (s *step) pop() uint32 {
	w := s.load(4)
	s.R[api.SP] += 4
	return w
}

func (s *step) swap() {
	s.setA(s.exchange(func(uint32) (uint32, bool) { return s.R[s.A], true }))
}

func (s *step) compareAndStore() {
	old := s.exchange(func(w uint32) (uint32, bool) { return s.R[s.C], w == s.R[s.A] })
	s.calculate(api.OpSub, s.R[s.A], old)
	s.setA(old)
}

func (s *step) fetchAndAdd() {
	s.setA(s.exchange(func(w uint32) (uint32, bool) { return s.R[s.A] + w, true }))
}

func (s *step) branch() {
	taken := s.choose(1, 0)
	s.PC = s.choose(s.I, s.PC)
	s.note(api.Event{Kind: api.EvBranch, A: s.PC, B: taken})
}

func (s *step) call(to uint32) {
	behind := s.PC
	s.push(behind)
	s.PC = to
	s.note(api.Event{Kind: api.EvCall, A: to, B: behind})
}

func (s *step) comeBack() {
	s.PC = s.pop()
	s.note(api.Event{Kind: api.EvRet, A: s.PC})
}

func (s *step) loadVector() {
	b := s.loadBytes(16)
	for i := range s.V[s.A] {
		s.V[s.A][i] = wordOf(b[4*i : 4*i+4])
	}
}

func (s *step) storeVector() {
	var b []byte
	for _, w := range s.V[s.A] {
		b = append(b, bytesOf(w)...)
	}
	s.storeBytes(b)
}

func (s *step) splat() {
	for i := range s.V[s.A] {
		s.V[s.A][i] = s.R[s.B]
	}
}
