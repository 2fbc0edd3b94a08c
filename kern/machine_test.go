package kern_test

import (
	"fmt"
	"math"
	"math/rand/v2"
	"testing"

	"candling/api"
	"candling/kern"
)

// outcome names what a system call came to, for counting.
func outcome(number uint32, result int) string {
	switch {
	case number > api.MaxSys:
		return "others bad"
	case result == bad:
		return fmt.Sprintf("call %d bad", number)
	case result == noResult:
		return fmt.Sprintf("call %d does not return", number)
	case result == 0 && (number == api.SysAlloc || number == api.SysResize):
		return fmt.Sprintf("call %d none", number)
	}
	return fmt.Sprintf("call %d", number)
}

// act is a call; do makes it, and says what it returned (nil and empty slices look alike).
type act struct {
	name string
	do   func(machine) string
}

// randomAct is any call about a world with so many threads.
func randomAct(r *rand.Rand, w api.World) act {
	thread := r.IntN(len(w.Threads))
	if isOneIn(r, 40) {
		thread = pick(r, -1, len(w.Threads), math.MinInt, math.MaxInt)
	}
	switch r.IntN(15) {
	case 0:
		return act{"Can", func(m machine) string { return fmt.Sprint(m.Can(), m.Ended()) }}
	case 1:
		return act{fmt.Sprintf("CPU(%d)", thread), func(m machine) string { return fmt.Sprint(m.CPU(thread)) }}
	case 2, 3:
		return act{fmt.Sprintf("Wake(%d)", thread), func(m machine) string { return fmt.Sprint(m.Wake(thread)) }}
	case 4:
		return act{fmt.Sprintf("Deliver(%d)", thread), func(m machine) string { return fmt.Sprint(m.Deliver(thread)) }}
	case 5:
		sig := pick(r, 1+r.IntN(8), 1+r.IntN(8), 1+r.IntN(8), 0, 9, -1, math.MinInt, math.MaxInt)
		return act{fmt.Sprintf("Send(%d, %d)", thread, sig), func(m machine) string { return fmt.Sprint(m.Send(thread, sig)) }}
	case 6, 7, 8, 9, 10:
		return randomTrap(r, thread)
	case 11:
		return randomPut(r, thread, w.Heap)
	case 12:
		var l []api.Turn
		for range r.IntN(4) {
			l = append(l, randomTurn(r, len(w.Threads)))
		}
		return act{fmt.Sprintf("Run(%v)", l), func(m machine) string { return fmt.Sprint(m.Run(l)) }}
	}
	t := randomTurn(r, len(w.Threads))
	return act{fmt.Sprintf("Do(%v)", t), func(m machine) string { return fmt.Sprint(m.Do(t)) }}
}

func randomTrap(r *rand.Rand, thread int) act {
	t := api.Trap{Kind: pick(r, api.TrSys, api.TrSys, api.TrSys, r.IntN(8)), Addr: r.Uint32()}
	if isOneIn(r, 20) {
		t.Kind = pick(r, -1, 8, math.MinInt, math.MaxInt)
	}
	return act{fmt.Sprintf("Trap(%d, %v)", thread, t), func(m machine) string { return fmt.Sprint(m.Trap(thread, t)) }}
}

func randomPut(r *rand.Rand, thread int, h api.Heap) act {
	c, steps := randomCPU(r, h), pick(r, 0, 0, 1, r.IntN(5))
	if isOneIn(r, 10) {
		c.F = pick(r, -1, 16, math.MinInt, math.MaxInt)
	}
	if isOneIn(r, 10) {
		steps = pick(r, -1, 200000, 200001, math.MinInt, math.MaxInt)
	}
	return act{fmt.Sprintf("Put(%d, %v, %d)", thread, c, steps), func(m machine) string { return fmt.Sprint(m.Put(thread, c, steps)) }}
}

// P8.1 to P8.3: what calls return, and the world behind them, is what the model says, also of machines that were cloned, or saved and loaded.
func TestModel(t *testing.T) {
	count := map[string]int{}
	for seed := range uint64(6000) {
		r := random(seed)
		w := randomWorld(r)
		m, x := loaded(t, w), newModel(w)
		x.sees = func(key string) { count[key]++ }
		for range 5 {
			switch r.IntN(12) {
			case 0:
				m = m.Clone()
			case 1:
				m = loaded(t, m.Save())
			}
			wantAgreement(t, seed, m, x, randomAct(r, x.Save()))
		}
	}
	wantCounts(t, count, 15, "handler", "no handler", "no frame", "blocked")
}

// wantAgreement holds that a machine and its model do the same.
func wantAgreement(t *testing.T, seed uint64, m *kern.Machine, x *model, a act) {
	t.Helper()
	before := x.Save()
	if got, want := a.do(m), a.do(x); got != want {
		t.Fatalf("seed %d: %s of %v: %s, want %s", seed, a.name, brief(before), got, want)
	}
	if got, want := m.Save(), x.Save(); !kern.Same(got, want) {
		t.Fatalf("seed %d: %s of %v: the world is %v, want %v", seed, a.name, brief(before), brief(got), brief(want))
	}
}

// P8.2, P8.3: each system call does what the model says, in a turn or as a trap, and ends in each way that it can end in.
func TestCalls(t *testing.T) {
	count := map[string]int{}
	for seed := range uint64(5000) {
		r := random(seed)
		w := worldCalling(r, uint32(seed%(api.MaxSys+2)))
		x := newModel(w)
		x.sees = func(key string) { count[key]++ }
		a := act{"Trap", func(m machine) string { return fmt.Sprint(m.Trap(0, api.Trap{Kind: api.TrSys})) }}
		if isOneIn(r, 3) {
			a = act{"Do", func(m machine) string { return fmt.Sprint(m.Do(api.Turn{Steps: 1})) }}
		}
		wantAgreement(t, seed, loaded(t, w), x, a)
	}
	wantCounts(t, count, 15, "others bad")
	for number := range uint32(api.MaxSys + 1) {
		wantCounts(t, count, 15, outcomesOf(number)...)
	}
}

// worldCalling is a random world in which thread 0 is about to make a system call.
func worldCalling(r *rand.Rand, number uint32) api.World {
	w := randomWorld(r)
	w.Ended, w.Code, w.Sig, w.Steps = false, 0, 0, r.IntN(1000)
	arguments := randomArguments(r, number, w.Heap)
	t := &w.Threads[0]
	t.Status, t.W, t.Sent, t.CPU.PC, t.CPU.R[0] = api.ThReady, 0, nil, 4096, number
	copy(t.CPU.R[1:], arguments[:])
	copy(w.Pages[1].B, encoded(sys))
	return w
}

// outcomesOf is all that a system call can come to.
func outcomesOf(number uint32) []string {
	returns, fails, goes := outcome(number, 1), outcome(number, bad), outcome(number, noResult)
	switch number {
	case api.SysExit, api.SysLeave, api.SysReturn:
		return []string{goes}
	case api.SysYield, api.SysMask, api.SysClock:
		return []string{returns}
	case api.SysAlloc, api.SysResize:
		return []string{returns, outcome(number, 0)}
	case api.SysJoin, api.SysLock:
		return []string{returns, fails, goes}
	}
	return []string{returns, fails}
}

func wantCounts(t *testing.T, count map[string]int, least int, keys ...string) {
	t.Helper()
	for _, key := range keys {
		if count[key] < least {
			t.Errorf("%s: only %d times", key, count[key])
		}
	}
}
