package cpu_test

import (
	"math/big"
	"slices"
	"testing"

	"candling/api"
	"candling/cpu"
	"candling/isa"
	"candling/mem"
)

// number returns a word as a number.
func number(w uint32) int { return int(w) }

// signed returns a word as a signed number.
func signed(w uint32) int {
	if w >= 1<<31 {
		return int(w) - 1<<32
	}
	return int(w)
}

func isSigned(n int) bool { return n >= -1<<31 && n <= 1<<31-1 }

// flags puts flags together.
func flags(zero, negative, carry, overflow bool) int {
	f := 0
	for i, is := range []bool{zero, negative, carry, overflow} {
		if is {
			f += 1 << i
		}
	}
	return f
}

// modelAlu is the chapter's table of operations, with whole numbers.
func modelAlu(op int, a, b uint32, carry int) (uint32, int, bool) {
	c := carry & 1
	if op == api.OpAdd || op == api.OpSub {
		c = 0
	}
	switch op {
	case api.OpAdd, api.OpAdc:
		r := uint32(number(a) + number(b) + c)
		return r, flags(r == 0, r>>31 == 1, number(a)+number(b)+c >= 1<<32, !isSigned(signed(a)+signed(b)+c)), true
	case api.OpSub, api.OpSbb:
		r := uint32(number(a) - number(b) - c)
		return r, flags(r == 0, r>>31 == 1, number(a) < number(b)+c, !isSigned(signed(a)-signed(b)-c)), true
	case api.OpAnd, api.OpOr, api.OpXor:
		r := modelBits(op, a, b)
		return r, flags(r == 0, r>>31 == 1, false, false), true
	case api.OpShl, api.OpShr, api.OpSar:
		r, out := modelShift(op, a, number(b)%32)
		return r, flags(r == 0, r>>31 == 1, out, false), true
	case api.OpMul, api.OpMulH:
		product := new(big.Int).Mul(big.NewInt(int64(a)), big.NewInt(int64(b)))
		upper, lower := new(big.Int).DivMod(product, big.NewInt(1<<32), new(big.Int))
		if op == api.OpMul {
			return uint32(lower.Uint64()), 0, true
		}
		return uint32(upper.Uint64()), 0, true
	case api.OpDiv, api.OpRem, api.OpDivS:
		r, ok := modelDivide(op, a, b)
		return r, 0, ok
	}
	return 0, 0, false
}

func modelBits(op int, a, b uint32) uint32 {
	r := 0
	for i := range 32 {
		x, y := number(a)>>i%2, number(b)>>i%2
		if op == api.OpAnd && x+y == 2 || op == api.OpOr && x+y > 0 || op == api.OpXor && x+y == 1 {
			r += 1 << i
		}
	}
	return uint32(r)
}

// modelShift shifts by one bit n times; it also returns whether the last bit that was shifted out is set.
func modelShift(op int, a uint32, n int) (uint32, bool) {
	out := false
	for range n {
		switch op {
		case api.OpShl:
			out = a >= 1<<31
			a = uint32(2 * number(a))
		case api.OpShr:
			out = a%2 == 1
			a /= 2
		case api.OpSar:
			out = a%2 == 1
			a = a/2 + a>>31<<31
		}
	}
	return a, out
}

func modelDivide(op int, a, b uint32) (uint32, bool) {
	if b == 0 {
		return 0, false
	}
	quotient := number(a) / number(b)
	switch op {
	case api.OpRem:
		return uint32(number(a) - quotient*number(b)), true
	case api.OpDivS:
		size := max(signed(a), -signed(a)) / max(signed(b), -signed(b))
		if a>>31 != b>>31 {
			size = -size
		}
		return uint32(size), true
	}
	return uint32(quotient), true
}

// modelHolds is what conditions say, each of them for itself.
func modelHolds(cd, f int) bool {
	zero, negative, carry, overflow := f&1 != 0, f&2 != 0, f&4 != 0, f&8 != 0
	switch cd {
	case api.CdE:
		return zero
	case api.CdNE:
		return !zero
	case api.CdB:
		return carry
	case api.CdAE:
		return !carry
	case api.CdS:
		return negative
	case api.CdNS:
		return !negative
	case api.CdO:
		return overflow
	case api.CdNO:
		return !overflow
	case api.CdBE:
		return carry || zero
	case api.CdA:
		return !carry && !zero
	case api.CdL:
		return negative && !overflow || !negative && overflow
	case api.CdGE:
		return negative && overflow || !negative && !overflow
	case api.CdLE:
		return zero || negative && !overflow || !negative && overflow
	case api.CdG:
		return !zero && (negative && overflow || !negative && !overflow)
	}
	return cd == api.CdAlways
}

func modelExtend(d int, a uint32) uint32 {
	sizes := []int{256, 256, 65536, 65536}
	r := number(a) % sizes[d]
	if d%2 == 1 && r >= sizes[d]/2 {
		r += 1<<32 - sizes[d]
	}
	return uint32(r)
}

// vectorBytes returns the bytes of a vector, and the vector of bytes.
func vectorBytes(v api.Vec) []int {
	var l []int
	for _, w := range v {
		l = append(l, number(w)%256, number(w)/256%256, number(w)/65536%256, number(w)/65536/256)
	}
	return l
}

func vectorOf(l []int) api.Vec {
	var v api.Vec
	for i, b := range l {
		v[i/4] += uint32(b) << (i % 4 * 8)
	}
	return v
}

// modelLanes calculates with lanes as lists of bytes.
func modelLanes(op, d int, a, b api.Vec) api.Vec {
	x, y := vectorBytes(a), vectorBytes(b)
	r := make([]int, 16)
	switch op {
	case api.OpVShuf:
		for i := range r {
			r[i] = x[y[i]%16]
		}
		return vectorOf(r)
	case api.OpVAnd, api.OpVOr, api.OpVXor:
		for i := range r {
			r[i] = int(modelBits(op-api.OpVAnd+api.OpAnd, uint32(x[i]), uint32(y[i])))
		}
		return vectorOf(r)
	}
	for i, size := 0, 1<<d; i < 16; i += size {
		carry := 0
		for k := i; k < i+size; k++ {
			n := x[k] + y[k] + carry
			if op == api.OpVSub {
				n = x[k] - y[k] + carry
			}
			carry = (n+256)/256 - 1
			r[k] = (n + 256) % 256
			if op == api.OpVEq {
				r[k] = 0
				if slices.Equal(x[i:i+size], y[i:i+size]) {
					r[k] = 255
				}
			}
		}
	}
	return vectorOf(r)
}

func modelMask(a api.Vec) uint32 {
	r := uint32(0)
	for i, b := range vectorBytes(a) {
		if b >= 128 {
			r += 1 << i
		}
	}
	return r
}

// model carries out an instruction; it stops at the first trap.
type model struct {
	c      api.CPU
	m      *mem.Mem
	at     uint32
	trap   api.Trap
	events []api.Event
}

// modelStep is the chapter's definition of a step.
func modelStep(s state) outcome {
	m := s.m.Clone()
	m.Mark()
	s.c.F = (s.c.F%16 + 16) % 16
	x := model{c: s.c, m: m, at: s.c.PC}
	x.carryOut()
	return outcome{state{x.c, m}, x.trap, x.events}
}

// has goes through bytes one by one, up to the first one whose page does not have rights.
func (s *model) has(at uint32, n, rights int) bool {
	for k := range uint32(n) {
		got, isMapped := s.m.Rights(int((at + k) / 256))
		if !isMapped || got&rights != rights {
			s.trap = api.Trap{Kind: api.TrSegv, Addr: at + k}
			return false
		}
	}
	return true
}

func (s *model) byteAt(at uint32) uint32 {
	b, _, _ := s.m.Peek(at, 1)
	return uint32(b[0])
}

func (s *model) wordAt(at uint32, n int) uint32 {
	w := uint32(0)
	for k := n - 1; k >= 0; k-- {
		w = w*256 + s.byteAt(at+uint32(k))
	}
	return w
}

func (s *model) storeWord(at, w uint32, n int) {
	for k := range n {
		s.m.Poke(at+uint32(k), []byte{byte(w)})
		w /= 256
	}
}

func (s *model) event(kind int, a, b uint32, n int) {
	s.events = append(s.events, api.Event{Kind: kind, PC: s.at, A: a, B: b, N: n})
}

func (s *model) carryOut() {
	if s.at%4 != 0 {
		s.trap = api.Trap{Kind: api.TrAlign, Addr: s.at}
		return
	}
	if !s.has(s.at, 4, api.RtExec) {
		return
	}
	n := 4
	if first := s.byteAt(s.at); first >= 64 && first <= 72 {
		n = 8
		if !s.has(s.at, 8, api.RtExec) {
			return
		}
	}
	b, _, _ := s.m.Peek(s.at, n)
	x, _, err := isa.Decode(b)
	if err != api.OK {
		s.trap.Kind = api.TrIll
		return
	}
	s.doInsn(x, uint32(n))
}

// doInsn does what the table says; a fault takes back all that was noted.
func (s *model) doInsn(x api.Insn, n uint32) {
	before := s.c
	s.event(api.EvExec, 0, 0, int(n))
	s.c.PC += n
	if x.Op >= api.OpVLoad && x.Op <= api.OpVMask {
		s.doVector(x)
	} else if !s.doMemory(x) && !s.doJump(x) {
		s.doWord(x)
	}
	if s.trap.Kind != api.TrNone && s.trap.Kind != api.TrSys && s.trap.Kind != api.TrReq {
		s.c, s.events = before, nil
	}
}

// load loads a word, or a part of one.
func (s *model) load(at uint32, n int, to *uint32) {
	if s.has(at, n, api.RtRead) {
		*to = s.wordAt(at, n)
		s.event(api.EvLoad, at, 0, n)
	}
}

func (s *model) store(at, w uint32, n int) bool {
	if !s.has(at, n, api.RtWrite) {
		return false
	}
	s.storeWord(at, w, n)
	s.event(api.EvStore, at, 0, n)
	return true
}

// doMemory does loads and stores of words that do not jump.
func (s *model) doMemory(x api.Insn) bool {
	r := &s.c.R
	p := r[x.B] + uint32(x.K)
	switch x.Op {
	case api.OpLoad8:
		s.load(p, 1, &r[x.A])
	case api.OpLoad16:
		s.load(p, 2, &r[x.A])
	case api.OpLoad32:
		s.load(p, 4, &r[x.A])
	case api.OpLoadI:
		s.load(r[x.B]+x.I, 4, &r[x.A])
	case api.OpLoad8S:
		if s.load(p, 1, &r[x.A]); s.trap.Kind == 0 && r[x.A] > 127 {
			r[x.A] += 0xffffff00
		}
	case api.OpStore8:
		s.store(p, r[x.A], 1)
	case api.OpStore16:
		s.store(p, r[x.A], 2)
	case api.OpStore32:
		s.store(p, r[x.A], 4)
	case api.OpStoreI:
		s.store(r[x.B]+x.I, r[x.A], 4)
	case api.OpPush:
		if s.store(r[15]-4, r[x.A], 4) {
			r[15] -= 4
		}
	case api.OpPop:
		at := r[15]
		r[15] += 4
		s.load(at, 4, &r[x.A])
	case api.OpSwap, api.OpCas, api.OpFadd:
		s.doAtomic(x, p)
	default:
		return false
	}
	return true
}

func (s *model) doAtomic(x api.Insn, p uint32) {
	if !s.has(p, 4, api.RtRead|api.RtWrite) {
		return
	}
	r := &s.c.R
	w := s.wordAt(p, 4)
	switch {
	case x.Op == api.OpSwap:
		s.storeWord(p, r[x.A], 4)
		r[x.A] = w
	case x.Op == api.OpFadd:
		s.storeWord(p, r[x.A]+w, 4)
		r[x.A] = w
	default:
		_, s.c.F, _ = modelAlu(api.OpSub, r[x.A], w, 0)
		if r[x.A] == w {
			s.storeWord(p, r[x.C], 4)
		} else {
			r[x.A] = w
		}
	}
	s.event(api.EvAtomic, p, 0, 4)
}

// doJump does what changes PC.
func (s *model) doJump(x api.Insn) bool {
	r, behind := &s.c.R, s.c.PC
	switch x.Op {
	case api.OpJmpR:
		s.c.PC = r[x.B]
	case api.OpJmp:
		s.c.PC = x.I
	case api.OpJcc:
		taken := uint32(0)
		if modelHolds(x.D, s.c.F) {
			s.c.PC, taken = x.I, 1
		}
		s.event(api.EvBranch, s.c.PC, taken, 0)
	case api.OpCall, api.OpCallR:
		to := x.I
		if x.Op == api.OpCallR {
			to = r[x.B]
		}
		if s.store(r[15]-4, behind, 4) {
			r[15] -= 4
			s.c.PC = to
			s.event(api.EvCall, to, behind, 0)
		}
	case api.OpRet:
		s.load(r[15], 4, &s.c.PC)
		r[15] += 4
		s.event(api.EvRet, s.c.PC, 0, 0)
	case api.OpSys:
		s.trap.Kind = api.TrSys
	case api.OpReq:
		s.trap.Kind = api.TrReq
	case api.OpBrk:
		s.trap.Kind = api.TrBreak
	default:
		return false
	}
	return true
}

// doWord does what needs neither memory nor vectors.
func (s *model) doWord(x api.Insn) {
	r := &s.c.R
	a, b, c, k := &r[x.A], r[x.B], r[x.C], uint32(int32(x.K))
	holds := modelHolds(x.D, s.c.F)
	switch x.Op {
	case api.OpMov:
		*a = b
	case api.OpSet:
		*a = x.I
	case api.OpAddK:
		*a, s.c.F, _ = modelAlu(api.OpAdd, b, k, 0)
	case api.OpAddI:
		*a, s.c.F, _ = modelAlu(api.OpAdd, b, x.I, 0)
	case api.OpNeg:
		*a, s.c.F, _ = modelAlu(api.OpSub, 0, b, 0)
	case api.OpNot:
		*a = 0xffffffff - b
	case api.OpExt:
		*a = modelExtend(x.D, b)
	case api.OpCmp:
		_, s.c.F, _ = modelAlu(api.OpSub, b, c, 0)
	case api.OpCmpK:
		_, s.c.F, _ = modelAlu(api.OpSub, b, k, 0)
	case api.OpCmpI:
		_, s.c.F, _ = modelAlu(api.OpSub, b, x.I, 0)
	case api.OpTest:
		_, s.c.F, _ = modelAlu(api.OpAnd, b, c, 0)
	case api.OpSel:
		*a = map[bool]uint32{true: b, false: c}[holds]
	case api.OpSetC:
		*a = map[bool]uint32{true: 1, false: 0}[holds]
	case api.OpGetF:
		*a = uint32(s.c.F)
	case api.OpSetF:
		s.c.F = number(b) % 16
	case api.OpLea:
		*a = uint32(number(b) + number(c)*[]int{1, 2, 4, 8}[x.D] + number(x.I))
	case api.OpNop, api.OpFence:
	default:
		s.doAlu(x)
	}
}

func (s *model) doAlu(x api.Insn) {
	w, f, ok := modelAlu(x.Op, s.c.R[x.B], s.c.R[x.C], s.c.F/4%2)
	if !ok {
		s.trap.Kind = api.TrDiv
		return
	}
	s.c.R[x.A] = w
	if x.Op < api.OpMul || x.Op > api.OpDivS {
		s.c.F = f
	}
}

func (s *model) doVector(x api.Insn) {
	p := s.c.R[x.B] + uint32(x.K)
	switch v := &s.c.V; x.Op {
	case api.OpVLoad:
		if s.has(p, 16, api.RtRead) {
			v[x.A] = api.Vec{s.wordAt(p, 4), s.wordAt(p+4, 4), s.wordAt(p+8, 4), s.wordAt(p+12, 4)}
			s.event(api.EvLoad, p, 0, 16)
		}
	case api.OpVStore:
		if s.has(p, 16, api.RtWrite) {
			for i := range uint32(4) {
				s.storeWord(p+4*i, v[x.A][i], 4)
			}
			s.event(api.EvStore, p, 0, 16)
		}
	case api.OpVMov:
		v[x.A] = v[x.B]
	case api.OpVIn:
		v[x.A][x.D] = s.c.R[x.B]
	case api.OpVOut:
		s.c.R[x.A] = v[x.B][x.D]
	case api.OpVSplat:
		w := s.c.R[x.B]
		v[x.A] = api.Vec{w, w, w, w}
	case api.OpVMask:
		s.c.R[x.A] = modelMask(v[x.B])
	default:
		v[x.A] = modelLanes(x.Op, x.D, v[x.B], v[x.C])
	}
}

// P7.3: Step does what the model does, with instructions of all operations, and traps of all kinds.
func TestModelOfSteps(t *testing.T) {
	type key struct{ op, trap int }
	done, traps := map[key]int{}, map[int]int{}
	for _, op := range operations() {
		r := random(uint64(op))
		for i := range 400 {
			s, x := randomState(t, r, op)
			got, want := s.stepped(), modelStep(s)
			if !got.isSame(want) {
				t.Fatalf("%d: %v with %v: %v, %v, %v, want %v, %v, %v", i, x, s.c, got.c, got.trap, got.events, want.c, want.trap, want.events)
			}
			done[key{op, got.trap.Kind}]++
			traps[got.trap.Kind]++
		}
	}
	for _, op := range operations() {
		kind := api.TrNone
		switch op {
		case api.OpSys:
			kind = api.TrSys
		case api.OpReq:
			kind = api.TrReq
		case api.OpBrk:
			kind = api.TrBreak
		}
		if done[key{op, kind}] < 40 {
			t.Errorf("the operation %d was carried out %d times only", op, done[key{op, kind}])
		}
	}
	for _, op := range []int{api.OpDiv, api.OpRem, api.OpDivS} {
		if done[key{op, api.TrDiv}] < 10 {
			t.Errorf("the operation %d divided by 0 %d times only", op, done[key{op, api.TrDiv}])
		}
	}
	for kind := api.TrSegv; kind <= api.TrBreak; kind++ {
		if traps[kind] < 40 {
			t.Errorf("the trap %d came %d times only", kind, traps[kind])
		}
	}
}

// P7.2: Fetch finds the instruction, or the trap, that the model's steps find.
func TestModelOfFetch(t *testing.T) {
	count := map[int]int{}
	for seed := range uint64(3000) {
		r := random(seed)
		s, _ := randomState(t, r, pick(r, operations()...))
		want := modelStep(s)
		x, n, trap := cpu.Fetch(s.c.PC, s.m)
		isFetched := trap == api.Trap{}
		if isFetched != (n > 0) || !isFetched && (x != api.Insn{} || trap.Kind == api.TrDiv || trap != want.trap) {
			t.Fatalf("seed %d: %v, %d, %v, want %v", seed, x, n, trap, want.trap)
		}
		if isFetched {
			if b, _, ok := s.m.Fetch(s.c.PC, n); !ok || !slices.Equal(b, bytesOf(t, x)) {
				t.Fatalf("seed %d: %v, but there is %v", seed, x, b)
			}
		}
		count[trap.Kind]++
	}
	for _, kind := range []int{api.TrNone, api.TrSegv, api.TrIll, api.TrAlign} {
		if count[kind] < 20 {
			t.Errorf("the trap %d came %d times only", kind, count[kind])
		}
	}
}
