package kern_test

import (
	"bytes"
	"fmt"
	"math/rand/v2"
	"slices"
	"testing"

	"candling/api"
	"candling/cpu"
	"candling/kern"
)

// dataAt is where the words stand that all threads of a random program share: the addresses of blocks, and others.
const dataAt = 30 * 256

// randomProgram is a program that makes all system calls again and again, in several threads, and handles all signals that it can.
func randomProgram(r *rand.Rand) api.Setup {
	const handler, slot = 4096, 64
	// Behind a trap, the handler comes back behind the first four bytes of the instruction, so that the program goes on.
	l := []api.Insn{
		{Op: api.OpCmpK, B: 1, K: api.SigBreak},
		{Op: api.OpSetC, A: 4, D: api.CdBE},
		{Op: api.OpLoad32, A: 3, B: api.SP, K: slot},
		{Op: api.OpLea, A: 3, B: 3, C: 4, D: 2},
		{Op: api.OpStore32, A: 3, B: api.SP, K: slot},
	}
	l = append(l, calling(api.SysReturn)...)
	entry := uint32(handler + len(encoded(l...)))
	for sig := range uint32(7) {
		l = append(l, calling(api.SysAction, sig+1, handler)...)
	}
	begin := uint32(handler + len(encoded(l...)))
	for i := range uint32(r.IntN(4)) {
		l = append(l, calling(api.SysSpawn, begin, (48+8*(i+1))*256, i)...)
	}
	for range 60 {
		l = append(l, randomChunk(r, begin)...)
	}
	l = append(l, api.Insn{Op: api.OpJmp, I: begin})
	s := api.Setup{Entry: entry, SP: 48 * 256, In: randomBytes(r, 50)}
	s.Heap = api.HeapConf{Page: 200, N: 3, Red: pick(r, 0, 8), Quarantine: pick(r, 0, 60)}
	for i, b := range slices.Collect(slices.Chunk(encoded(l...), 256)) {
		s.Pages = append(s.Pages, page(16+i, 7, b...))
	}
	for i := range 66 {
		s.Pages = append(s.Pages, page(30+i, 3))
	}
	return s
}

// randomChunk is some instructions: a system call, most of the time.
func randomChunk(r *rand.Rand, begin uint32) []api.Insn {
	word := func(n int) uint32 { return uint32(r.IntN(n)) }
	slot := dataAt + 4*word(6)
	fromSlot := func(number uint32) []api.Insn {
		return []api.Insn{set(2, word(80)), set(0, slot), {Op: api.OpLoad32, A: 1, B: 0}, set(0, number), sys}
	}
	toSlot := []api.Insn{set(5, slot), {Op: api.OpStore32, B: 5}}
	switch r.IntN(22) {
	case 0, 1, 2:
		return append(calling(api.SysAlloc, word(80)), toSlot...)
	case 3:
		return fromSlot(api.SysFree)
	case 4:
		return append(fromSlot(api.SysResize), toSlot...)
	case 5:
		return fromSlot(api.SysSize)
	case 6, 7:
		return calling(api.SysLock, word(3))
	case 8, 9:
		return calling(api.SysUnlock, word(3))
	case 10:
		return calling(api.SysKill, word(4), 5+word(3))
	case 11:
		return calling(api.SysMask, word(128)&^15)
	case 12:
		return calling(api.SysWrite, dataAt+word(300), word(10))
	case 13:
		return calling(api.SysRead, dataAt+64+word(250), word(10))
	case 14:
		return calling(pick[uint32](r, api.SysMap, api.SysUnmap, api.SysProtect), 300+word(2), 1, word(8))
	case 15:
		return calling(pick[uint32](r, api.SysYield, api.SysClock, api.SysSize, 21+word(9)), word(9))
	case 16:
		return []api.Insn{pick(r, api.Insn{Op: api.OpDiv, C: 12}, api.Insn{Op: api.OpBrk}, api.Insn{Op: api.OpReq})}
	case 17:
		return []api.Insn{set(5, slot), {Op: api.OpLoad32, A: 6, B: 5}, {Op: api.OpStore32, A: 5, B: 6, K: 4}}
	case 18:
		return []api.Insn{set(5, dataAt+32), {Op: pick(r, api.OpFadd, api.OpSwap), A: 6, B: 5}, {Op: api.OpAddK, A: 6, B: 6, K: 1}}
	case 19:
		return []api.Insn{{Op: api.OpJcc, D: api.CdE, I: begin}, {Op: api.OpPush, A: 3}, {Op: api.OpPop, A: 9}}
	case 20:
		if isOneIn(r, 2) {
			return calling(api.SysSpawn, begin, (48+8*(4+word(2)))*256, word(9))
		}
		return calling(api.SysJoin, word(4))
	}
	if isOneIn(r, 12) {
		return calling(pick[uint32](r, api.SysExit, api.SysLeave, api.SysLeave, api.SysLeave), word(4))
	}
	return []api.Insn{{Op: api.OpVIn, A: 2, B: 1, D: 2}, {Op: api.OpAdd, A: 7, B: 6, C: 1}}
}

// played is a turn of a run: the worlds ahead of it and behind it, its events, and how many steps were made.
type played struct {
	api.Turn
	before, after api.World
	events        []api.Event
	steps         int
}

// plays calls do with the turns of runs of random programs, of which each has its own seed.
func plays(t *testing.T, runs, turns int, do func(seed uint64, m *kern.Machine, p played)) {
	t.Helper()
	for seed := range uint64(runs) {
		r := random(seed)
		m := made(t, randomProgram(r))
		before := m.Save()
		for range turns {
			l := m.Can()
			if len(l) == 0 {
				break
			}
			p := played{Turn: api.Turn{Thread: pick(r, l...), Steps: r.IntN(60)}, before: before}
			if isOneIn(r, 8) {
				p.Sig = 5 + r.IntN(3)
			}
			if isOneIn(r, 10) {
				p.Thread = r.IntN(len(before.Threads))
			}
			p.events, p.steps = done(t, m, p.Turn)
			p.after = m.Save()
			if err := kern.Check(p.after); err != api.OK {
				t.Fatalf("seed %d: %v leads to a world that is not valid: %v", seed, p.Turn, brief(p.after))
			}
			do(seed, m, p)
			before = p.after
		}
	}
}

// The random programs do all that there is to do.
func TestRandomPrograms(t *testing.T) {
	count := map[string]int{}
	plays(t, 200, 60, func(_ uint64, _ *kern.Machine, p played) {
		for _, e := range p.events {
			count[fmt.Sprint("event ", e.Kind)]++
		}
		for _, th := range p.after.Threads {
			count[fmt.Sprint("status ", th.Status)]++
		}
	})
	// The programs call nothing: this is a matter of package cpu.
	for kind := api.EvSys; kind <= api.EvEnd; kind++ {
		wantCounts(t, count, 10, fmt.Sprint("event ", kind))
	}
	for status := api.ThReady; status <= api.ThDone; status++ {
		wantCounts(t, count, 10, fmt.Sprint("status ", status))
	}
}

// states calls do with worlds of runs of random programs, and with random worlds.
func states(t *testing.T, do func(r *rand.Rand, w api.World)) {
	t.Helper()
	for seed := range uint64(1500) {
		r := random(5000 + seed)
		do(r, randomWorld(r))
	}
	plays(t, 25, 40, func(seed uint64, _ *kern.Machine, p played) {
		do(random(seed+uint64(p.after.Steps)), p.after)
	})
}

// P8.4: a turn is the same as its two halves.
func TestTurnsInTwo(t *testing.T) {
	halves := 0
	states(t, func(r *rand.Rand, w api.World) {
		turn := api.Turn{Thread: r.IntN(len(w.Threads)), Steps: r.IntN(80), Sig: pick(r, 0, 0, r.IntN(9))}
		if w.Ended || w.Steps+turn.Steps > mostSteps {
			return
		}
		whole, halved := loaded(t, w), loaded(t, w)
		want, steps := done(t, whole, turn)
		n := r.IntN(turn.Steps + 1)
		first := turn
		first.Steps = n
		got, made := done(t, halved, first)
		if made < n || halved.Ended() {
			return
		}
		rest, more := done(t, halved, api.Turn{Thread: turn.Thread, Steps: turn.Steps - n})
		if made+more != steps {
			t.Fatalf("%v of %v: %d and %d steps, want %d", turn, brief(w), made, more, steps)
		}
		wantEvents(t, slices.Concat(got, rest), want...)
		wantSame(t, halved, whole.Save())
		halves++
	})
	if halves < 300 {
		t.Errorf("only %d turns", halves)
	}
}

// inPieces makes a turn by its pieces: the events, how many steps were made.
func inPieces(t *testing.T, m *kern.Machine, turn api.Turn) ([]api.Event, int) {
	t.Helper()
	if turn.Sig != 0 {
		if err := m.Send(turn.Thread, turn.Sig); err != api.OK {
			t.Fatalf("Send: %d", err)
		}
	}
	all, isReady, _ := m.Wake(turn.Thread)
	steps := 0
	for isReady && !m.Ended() && steps < turn.Steps {
		events, is, _ := m.Deliver(turn.Thread)
		all = append(all, events...)
		if is {
			continue
		}
		c, _ := m.CPU(turn.Thread)
		after, trap, events := cpu.Step(c, m.Mem())
		for i := range events {
			events[i].Thread = turn.Thread
		}
		counts := 1
		if trap.Kind != api.TrNone && trap.Kind != api.TrSys && trap.Kind != api.TrReq {
			counts = 0
		}
		if err := m.Put(turn.Thread, after, counts); err != api.OK {
			t.Fatalf("Put: %d", err)
		}
		followed, err := m.Trap(turn.Thread, trap)
		if err != api.OK {
			t.Fatalf("Trap: %d", err)
		}
		all = slices.Concat(all, events, followed)
		steps++
		isReady = m.Save().Threads[turn.Thread].Status == api.ThReady
	}
	return all, steps
}

// P8.5: a turn is the same as its pieces.
func TestPieces(t *testing.T) {
	states(t, func(r *rand.Rand, w api.World) {
		turn := api.Turn{Thread: r.IntN(len(w.Threads)), Steps: r.IntN(20), Sig: pick(r, 0, 0, r.IntN(9))}
		if w.Ended || w.Steps+turn.Steps > mostSteps {
			return
		}
		whole, pieced := loaded(t, w), loaded(t, w)
		want, steps := done(t, whole, turn)
		got, n := inPieces(t, pieced, turn)
		wantEvents(t, got, want...)
		wantSame(t, pieced, whole.Save())
		if n != steps {
			t.Fatalf("%v of %v: %d steps, want %d", turn, brief(w), n, steps)
		}
	})
}

// P8.6: a mutex has one owner at most, who gives it back.
func TestMutualExclusion(t *testing.T) {
	taken := 0
	var owners map[uint32]int
	plays(t, 200, 60, func(seed uint64, _ *kern.Machine, p played) {
		if p.before.Steps == 0 {
			owners = map[uint32]int{}
		}
		for _, e := range p.events {
			owner, isHad := owners[e.A]
			switch {
			case e.Kind == api.EvLock && isHad:
				t.Fatalf("seed %d: thread %d takes a mutex of thread %d", seed, e.Thread, owner)
			case e.Kind == api.EvUnlock && (!isHad || owner != e.Thread):
				t.Fatalf("seed %d: thread %d gives back what it does not have", seed, e.Thread)
			case e.Kind == api.EvLock:
				owners[e.A] = e.Thread
				taken++
			case e.Kind == api.EvUnlock:
				delete(owners, e.A)
			}
		}
		if len(owners) != len(p.after.Locks) {
			t.Fatalf("seed %d: %v, but by the events %v", seed, p.after.Locks, owners)
		}
		for _, l := range p.after.Locks {
			if owner, isHad := owners[l.At]; !isHad || owner != l.Owner {
				t.Fatalf("seed %d: %v, but by the events %v", seed, p.after.Locks, owners)
			}
		}
	})
	if taken < 500 {
		t.Errorf("only %d times", taken)
	}
}

// P8.7: what only grows, and what stays.
func TestOrder(t *testing.T) {
	ends := 0
	plays(t, 200, 60, func(seed uint64, m *kern.Machine, p played) {
		b, a := p.before, p.after
		if !bytes.HasPrefix(a.Out, b.Out) || !bytes.Equal(a.In, b.In) || a.InAt < b.InAt {
			t.Fatalf("seed %d: input or output have not only grown: %v, %v", seed, brief(b), brief(a))
		}
		if a.Steps != b.Steps+p.steps || p.steps > p.Steps || len(a.Threads) < len(b.Threads) {
			t.Fatalf("seed %d: %d steps, %v, %v", seed, p.steps, brief(b), brief(a))
		}
		for i, th := range b.Threads {
			if th.Status == api.ThDone && !slices.Equal(a.Threads[i].Sent, th.Sent) || th.Status == api.ThDone && a.Threads[i].Status != api.ThDone {
				t.Fatalf("seed %d: thread %d was done", seed, i)
			}
		}
		if a.Ended {
			ends++
			m.Do(api.Turn{Steps: 5, Sig: 5})
			m.Run([]api.Turn{{Steps: 5, Sig: 5}})
			m.Wake(0)
			m.Deliver(0)
			m.Trap(0, api.Trap{Kind: api.TrBreak})
			m.Send(0, 5)
			m.Put(0, api.CPU{}, 1)
			wantSame(t, m, a)
		}
	})
	if ends < 20 {
		t.Errorf("only %d runs have ended", ends)
	}
}

// P8.8: a handler that leaves the stack pointer as it was, and comes back, restores all.
func TestBackFromHandler(t *testing.T) {
	came := 0
	states(t, func(r *rand.Rand, w api.World) {
		thread := r.IntN(len(w.Threads))
		w.Ended, w.Code, w.Sig, w.Steps = false, 0, 0, 0
		before := &w.Threads[thread]
		before.Status, before.W = api.ThReady, 0
		before.Sent = append([]int{1 + r.IntN(7)}, before.Sent[:min(3, len(before.Sent))]...)
		m := loaded(t, w)
		is := true
		if isOneIn(r, 2) {
			m.Trap(thread, api.Trap{Kind: pick(r, api.TrSegv, api.TrDiv)})
		} else {
			_, is, _ = m.Deliver(thread)
		}
		c, err := m.CPU(thread)
		if !is || m.Ended() || err != api.OK {
			return
		}
		entered := m.Save().Threads[thread]
		if c.R[15] != before.CPU.R[15]-204 || entered.Mask|before.Mask != entered.Mask || entered.Mask&(1<<(c.R[1]-1)) == 0 {
			t.Fatalf("the handler of %v begins with %v", *before, entered)
		}
		c.R = [16]uint32{api.SysReturn, 15: c.R[15]}
		c.F, c.V = r.IntN(16), [8]api.Vec{{r.Uint32()}}
		m.Put(thread, c, 1)
		m.Trap(thread, api.Trap{Kind: api.TrSys})
		if after := m.Save().Threads[thread]; !m.Ended() && (after.CPU != before.CPU || after.Mask != before.Mask) {
			t.Fatalf("%v comes back as %v", *before, after)
		}
		came++
	})
	if came < 200 {
		t.Errorf("only %d handlers", came)
	}
}

// P8.9: a turn changes nothing of other threads, but what was sent to them.
func TestOthers(t *testing.T) {
	others := 0
	plays(t, 200, 60, func(seed uint64, _ *kern.Machine, p played) {
		for i, b := range p.before.Threads {
			a := p.after.Threads[i]
			if i == p.Thread {
				continue
			}
			others++
			isGrown := len(a.Sent) >= len(b.Sent) && slices.Equal(a.Sent[:len(b.Sent)], b.Sent)
			a.Sent, b.Sent = nil, nil
			if !isGrown || a.CPU != b.CPU || a.Status != b.Status || a.W != b.W || a.Mask != b.Mask {
				t.Fatalf("seed %d: a turn of thread %d makes %v of thread %d, %v", seed, p.Thread, a, i, b)
			}
		}
		for _, e := range p.events {
			if e.Thread != p.Thread {
				t.Fatalf("seed %d: a turn of thread %d has %v", seed, p.Thread, e)
			}
		}
	})
	if others < 500 {
		t.Errorf("only %d", others)
	}
}

// P8.10: blocks are apart, within the pages of the heap, and those that were not given out cannot be taken back.
func TestBlocks(t *testing.T) {
	blocks := 0
	plays(t, 40, 60, func(seed uint64, m *kern.Machine, p played) {
		c := p.after.Heap.Conf
		owner := make([]int, c.N*256)
		for _, b := range p.after.Heap.Live {
			blocks++
			for k := range b.Size {
				at := int(b.At) + k - c.Page*256
				if at < 0 || at >= len(owner) || owner[at] != 0 {
					t.Fatalf("seed %d: block %v is no block of its own: %v", seed, b, p.after.Heap)
				}
				owner[at] = b.Born
			}
		}
		r := random(seed + uint64(p.after.Steps))
		at := pick(r, uint32(c.Page*256+r.IntN(c.N*256)), 0, r.Uint32())
		isBlock := slices.ContainsFunc(p.after.Heap.Live, func(b api.Piece) bool { return b.At == at })
		if isBlock || p.after.Ended || p.after.Threads[p.Thread].Status != api.ThReady {
			return
		}
		w := called{copied(p.after), t}
		registers := &w.Threads[p.Thread].CPU.R
		registers[0], registers[1] = api.SysFree, at
		freeing := loaded(t, w.World)
		freeing.Trap(p.Thread, api.Trap{Kind: api.TrSys})
		registers[0] = api.SysBad
		wantSame(t, freeing, w.World)
	})
	if blocks < 2000 {
		t.Errorf("only %d blocks", blocks)
	}
}

// P8.11, P8.12: a clone, and what is loaded from what was saved, are machines of their own that do the same.
func TestClones(t *testing.T) {
	states(t, func(r *rand.Rand, w api.World) {
		m := loaded(t, w)
		c := m.Clone()
		if isOneIn(r, 3) {
			c = loaded(t, m.Save())
		}
		var l []act
		for range 4 {
			l = append(l, randomAct(r, w))
		}
		l = append(l, act{"Write", func(m machine) string { return fmt.Sprint(m.Mem().Write(dataAt, []byte{1, 2})) }})
		var want []string
		for _, a := range l {
			want = append(want, a.do(c))
		}
		wantSame(t, m, w)
		after := c.Save()
		for i, a := range l {
			if got := a.do(m); got != want[i] {
				t.Fatalf("%s of %v: %s, but of a clone %s", a.name, brief(w), got, want[i])
			}
		}
		wantSame(t, m, after)
		for _, a := range l {
			a.do(m)
		}
		wantSame(t, c, after)
	})
}

// P8.4, P8.12: a run hangs on its setup and its turns alone, wherever it is saved and loaded.
func TestRunsAreRepeated(t *testing.T) {
	for seed := range uint64(20) {
		r := random(seed)
		s := randomProgram(r)
		a, b := made(t, s), made(t, s)
		for range 60 {
			turn := api.Turn{Thread: r.IntN(4), Steps: r.IntN(40), Sig: pick(r, 0, 0, 0, 0, 5, 6)}
			if isOneIn(r, 4) {
				b = loaded(t, b.Save())
			}
			want, n, err := a.Do(turn)
			got, k, e := b.Do(turn)
			wantEvents(t, got, want...)
			if k != n || e != err {
				t.Fatalf("%d steps, %d, want %d, %d", k, e, n, err)
			}
		}
		wantSame(t, b, a.Save())
	}
}
