package cpu_test

import (
	"math/rand/v2"
	"slices"
	"testing"

	"candling/api"
	"candling/cpu"
	"candling/isa"
	"candling/mem"
)

// steps calls do with many states in which an instruction is about to be carried out.
func steps(t *testing.T, count int, do func(r *rand.Rand, s state, x api.Insn)) {
	t.Helper()
	for _, op := range operations() {
		r := random(uint64(100 + op))
		for range count {
			s, _ := randomState(t, r, op)
			s.c.F &= 15
			if x, n, _ := cpu.Fetch(s.c.PC, s.m); n > 0 {
				do(r, s, x)
			}
		}
	}
}

// usesOf is what an instruction uses.
func usesOf(t *testing.T, x api.Insn) api.Uses {
	t.Helper()
	u, err := isa.UsesOf(x)
	if err != api.OK {
		t.Fatalf("%v: %d", x, err)
	}
	return u
}

func hasBit(mask, i int) bool { return mask>>i%2 == 1 }

// isWithin reports whether ranges of addresses lie in one of them, which may go around the end of the addresses.
func isWithin(l []api.Span, of api.Span) bool {
	return !slices.ContainsFunc(l, func(s api.Span) bool { return int(s.At-of.At)+s.N > of.N })
}

// P7.5: a step changes nothing but what isa.UsesOf and Reach say.
func TestOnlyUsesAreChanged(t *testing.T) {
	stored := 0
	steps(t, 150, func(_ *rand.Rand, s state, x api.Insn) {
		o, u := s.stepped(), usesOf(t, x)
		if o.isFault() {
			return
		}
		for i := range 16 {
			if !hasBit(u.Writes, i) && o.c.R[i] != s.c.R[i] {
				t.Fatalf("%v changes r%d", x, i)
			}
		}
		for i := range 8 {
			if !hasBit(u.VWrites, i) && o.c.V[i] != s.c.V[i] {
				t.Fatalf("%v changes v%d", x, i)
			}
		}
		if !u.FlagsOut && o.c.F != s.c.F {
			t.Fatalf("%v changes the flags", x)
		}
		if !u.Jumps && o.c.PC != s.c.PC+uint32(len(bytesOf(t, x))) {
			t.Fatalf("%v jumps", x)
		}
		_, store, _ := cpu.Reach(s.c, x)
		l := mem.Diff(s.m, o.m)
		if !isWithin(l, store) {
			t.Fatalf("%v at %v changes %v", x, store, l)
		}
		stored += len(l)
	})
	if stored < 500 {
		t.Errorf("only %d steps changed memory", stored)
	}
}

// P7.5: what a step does depends on what isa.UsesOf says that it reads, and on nothing else.
func TestOnlyUsesAreRead(t *testing.T) {
	done := 0
	steps(t, 150, func(r *rand.Rand, s state, x api.Insn) {
		u, other := usesOf(t, x), s
		for i := range 16 {
			if !hasBit(u.Reads, i) {
				other.c.R[i] = randomWord(r)
			}
		}
		for i := range 8 {
			if !hasBit(u.VReads, i) {
				other.c.V[i] = randomCPU(r).V[1]
			}
		}
		if !u.FlagsIn {
			other.c.F = r.IntN(16)
		}
		o, p := s.stepped(), other.stepped()
		if o.trap != p.trap || !slices.Equal(o.events, p.events) || !mem.Same(o.m, p.m) || o.c.PC != p.c.PC {
			t.Fatalf("%v with %v and %v: %v, %v and %v, %v", x, s.c, other.c, o.trap, o.events, p.trap, p.events)
		}
		if o.isFault() {
			return
		}
		done++
		for i := range 16 {
			if hasBit(u.Writes, i) && o.c.R[i] != p.c.R[i] {
				t.Fatalf("%v with %v and %v: r%d is not the same", x, s.c, other.c, i)
			}
		}
		for i := range 8 {
			if hasBit(u.VWrites, i) && o.c.V[i] != p.c.V[i] {
				t.Fatalf("%v with %v and %v: v%d is not the same", x, s.c, other.c, i)
			}
		}
		if u.FlagsOut && o.c.F != p.c.F {
			t.Fatalf("%v with %v and %v: flags %d and %d", x, s.c, other.c, o.c.F, p.c.F)
		}
	})
	if done < 4000 {
		t.Errorf("only %d steps", done)
	}
}

// P7.6: a fault leaves everything as it was.
func TestFaultsChangeNothing(t *testing.T) {
	count := map[int]int{}
	for _, op := range operations() {
		r := random(uint64(200 + op))
		for range 300 {
			s, x := randomState(t, r, op)
			o := s.stepped()
			if !o.isFault() {
				continue
			}
			count[o.trap.Kind]++
			s.c.F &= 15
			if o.c != s.c || len(o.events) > 0 || !mem.Same(o.m, s.m) || len(o.m.Changed()) > 0 {
				t.Fatalf("%v: %v, %v, %v", x, o.c, o.trap, o.events)
			}
		}
	}
	for _, kind := range []int{api.TrSegv, api.TrIll, api.TrDiv, api.TrAlign, api.TrBreak} {
		if count[kind] < 30 {
			t.Errorf("the trap %d came %d times only", kind, count[kind])
		}
	}
}

// P7.11: events of memory are those of Reach, and what changes lies within them.
func TestEvents(t *testing.T) {
	steps(t, 150, func(_ *rand.Rand, s state, x api.Insn) {
		o := s.stepped()
		if o.isFault() != (len(o.events) == 0) {
			t.Fatalf("%v: %v, %v", x, o.trap, o.events)
		}
		if o.isFault() {
			return
		}
		if o.events[0] != (api.Event{Kind: api.EvExec, PC: s.c.PC, N: len(bytesOf(t, x))}) {
			t.Fatalf("%v: %v", x, o.events)
		}
		load, store, _ := cpu.Reach(s.c, x)
		var want []api.Event
		switch {
		case load.N > 0 && store.N > 0:
			want = []api.Event{{Kind: api.EvAtomic, PC: s.c.PC, A: load.At, N: load.N}}
		case load.N > 0:
			want = []api.Event{{Kind: api.EvLoad, PC: s.c.PC, A: load.At, N: load.N}}
		case store.N > 0:
			want = []api.Event{{Kind: api.EvStore, PC: s.c.PC, A: store.At, N: store.N}}
		}
		switch behind := s.c.PC + uint32(len(bytesOf(t, x))); x.Op {
		case api.OpJcc:
			taken := map[bool]uint32{true: 1}[cpu.Holds(x.D, s.c.F)]
			want = append(want, api.Event{Kind: api.EvBranch, PC: s.c.PC, A: o.c.PC, B: taken})
		case api.OpCall, api.OpCallR:
			want = append(want, api.Event{Kind: api.EvCall, PC: s.c.PC, A: o.c.PC, B: behind})
		case api.OpRet:
			want = append(want, api.Event{Kind: api.EvRet, PC: s.c.PC, A: o.c.PC})
		}
		if !slices.Equal(o.events[1:], want) {
			t.Fatalf("%v: %v, want %v", x, o.events[1:], want)
		}
		if l := mem.Diff(s.m, o.m); !isWithin(l, store) {
			t.Fatalf("%v at %v changes %v", x, store, l)
		}
	})
}

// randomProgram is a memory full of instructions that seldom leave it, and a CPU at one of them.
func randomProgram(t *testing.T, r *rand.Rand) state {
	t.Helper()
	s := state{randomCPU(r), loaded(t, page(1, 7), page(2, 7), page(3, 3))}
	for at := uint32(256); at < 760; {
		x := randomInsn(t, r, pick(r, operations()...))
		if x.Op == api.OpBrk && !isOneIn(r, 5) {
			continue
		}
		if x.Op >= api.OpJmp && x.Op <= api.OpCall {
			x.I = 256 + 4*uint32(r.IntN(128))
		}
		put(t, s.m, at, x)
		at += uint32(len(bytesOf(t, x)))
	}
	for i := range s.c.R {
		s.c.R[i] = 256 + 4*uint32(r.IntN(180))
	}
	s.c.PC = 256 + 4*uint32(r.IntN(30))
	return s
}

// runOf runs with a copy of the memory.
func (s state) runOf(most int) (outcome, int) {
	m := s.m.Clone()
	m.Mark()
	c, trap, events, n := cpu.Run(s.c, m, most)
	return outcome{state{c, m}, trap, events}, n
}

// P7.12: a run is a run of some instructions and then one of the others; a run of one is a step.
func TestRunsInPieces(t *testing.T) {
	pieces, steps := 0, 0
	for seed := range uint64(1500) {
		r := random(seed)
		s := randomProgram(t, r)
		if r.IntN(4) == 0 {
			s, _ = randomState(t, r, pick(r, operations()...))
		}
		n, k := r.IntN(12), r.IntN(12)
		all, total := s.runOf(n + k)
		first, done := s.runOf(n)
		if first.trap.Kind == api.TrNone {
			m := first.m
			c, trap, events, more := cpu.Run(first.c, m, k)
			second := outcome{state{c, m}, trap, append(slices.Clone(first.events), events...)}
			if !second.isSame(all) || done != n || done+more != total {
				t.Fatalf("seed %d: %d and %d: %v, %v, %d and %d, want %v, %v, %d", seed, n, k, second.c, second.trap, done, more, all.c, all.trap, total)
			}
			pieces++
			steps += total
		} else if !first.isSame(all) || done != total {
			t.Fatalf("seed %d: %d and %d: %v, %v, %d, want %v, %v, %d", seed, n, k, first.c, first.trap, done, all.c, all.trap, total)
		}
		one, count := s.runOf(1)
		if step := s.stepped(); !one.isSame(step) || count != 1-map[bool]int{true: 1}[step.isFault()] {
			t.Fatalf("seed %d: Run of 1: %v, %v, %d", seed, one.c, one.trap, count)
		}
	}
	if pieces < 500 || steps < 3000 {
		t.Errorf("only %d runs in pieces, of %d steps", pieces, steps)
	}
}

// P7.13: what is pushed is popped, and calls come back.
func TestStack(t *testing.T) {
	pushed, called := 0, 0
	for seed := range uint64(2000) {
		r := random(seed)
		s := state{randomCPU(r), randomMemory(t, r)}
		s.c.PC, s.c.R[api.SP] = 256, pick(r, randomAddress(r), 600+uint32(r.IntN(100)))
		a, b := r.IntN(16), r.IntN(15)
		put(t, s.m, 256, api.Insn{Op: api.OpPush, A: a}, api.Insn{Op: api.OpPop, A: b})
		if o, n := s.runOf(2); n == 2 && isApart(s.c.R[api.SP]-4, 256, 8) {
			want := s.c
			want.R[b], want.PC = s.c.R[a], 264
			if o.c != want {
				t.Fatalf("seed %d: push r%d, pop r%d: %v, want %v", seed, a, b, o.c, want)
			}
			pushed++
		}
		to := 256 + 4*uint32(16+r.IntN(40))
		call := api.Insn{Op: api.OpCall, I: to}
		if isOneIn(r, 2) {
			call = api.Insn{Op: api.OpCallR, B: b}
			s.c.R[b] = to
		}
		put(t, s.m, 256, call)
		put(t, s.m, to, api.Insn{Op: api.OpRet})
		behind := 256 + uint32(len(bytesOf(t, call)))
		if o, n := s.runOf(2); n == 2 && isApart(s.c.R[api.SP]-4, to, 4) {
			want := s.c
			want.PC = behind
			if o.c != want || wordAt(t, o.m, s.c.R[api.SP]-4) != behind {
				t.Fatalf("seed %d: %v: %v, want %v", seed, call, o.c, want)
			}
			called++
		}
	}
	if pushed < 500 || called < 500 {
		t.Errorf("only %d pushes, %d calls", pushed, called)
	}
}

// isApart reports whether the word at an address has none of n bytes.
func isApart(word, at uint32, n int) bool {
	return int(word-at) >= n && int(at-word) >= 4
}

// P7.1 to P7.4: what is returned is new memory, and arguments stay as they are.
func TestResultsAreNew(t *testing.T) {
	m := program(t, "push r1", "pop r2", "sys")
	c := api.CPU{PC: 256, R: [16]uint32{1: 7, 15: 600}}
	_, _, one := cpu.Step(c, m)
	_, _, two := cpu.Step(c, m)
	one[0].N = 99
	if two[0].N != 4 || c != (api.CPU{PC: 256, R: [16]uint32{1: 7, 15: 600}}) {
		t.Errorf("%v, %v", two, c)
	}
	_, _, all, _ := cpu.Run(c, m, 3)
	_, _, again, _ := cpu.Run(c, m, 3)
	all[0].N = 99
	if again[0].N != 4 || len(again) != 5 {
		t.Errorf("%v", again)
	}
}
