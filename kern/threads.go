package kern

import (
	"cmp"
	"slices"

	"candling/api"
)

// exit ends the run with the code r1.
func (u *turn) exit() (uint32, bool) {
	u.end(int(u.CPU.R[1]), 0)
	return 0, false
}

// leave ends the thread.
func (u *turn) leave() (uint32, bool) {
	u.Status = api.ThDone
	w := &u.machine.world
	isOwn := func(l api.Lock) bool { return l.Owner == u.number }
	for _, l := range w.Locks {
		if isOwn(l) {
			u.see(api.Event{Kind: api.EvUnlock, A: l.At})
		}
	}
	w.Locks = slices.DeleteFunc(w.Locks, isOwn)
	u.see(api.Event{Kind: api.EvExit})
	isOn := func(t *thread) bool { return t.Status != api.ThDone }
	if !slices.ContainsFunc(u.machine.threads, isOn) {
		u.end(0, 0)
	}
	return 0, false
}

// spawn lets a thread begin at r1, with the stack pointer r2, and r3 in its r1.
func (u *turn) spawn() (uint32, bool) {
	number, begin, stack := len(u.machine.threads), u.CPU.R[1], u.CPU.R[2]
	if number == api.MaxThreads {
		return u.bad()
	}
	t := api.Thread{Status: api.ThReady, Mask: u.Mask}
	t.CPU.PC, t.CPU.R[api.SP], t.CPU.R[1] = begin, stack, u.CPU.R[3]
	u.machine.add(t)
	u.see(api.Event{Kind: api.EvSpawn, N: number, A: begin, B: stack})
	return uint32(number), true
}

// join waits until thread r1 is done.
func (u *turn) join() (uint32, bool) {
	other := int(u.CPU.R[1])
	if other == u.number || !u.machine.hasThread(other) {
		return u.bad()
	}
	if u.machine.threads[other].Status != api.ThDone {
		return u.wait(api.ThJoin)
	}
	u.see(api.Event{Kind: api.EvJoin, N: other})
	return 0, true
}

// lock takes the mutex r1, or waits for it.
func (u *turn) lock() (uint32, bool) {
	locks, at := u.machine.world.Locks, u.CPU.R[1]
	i, isHad := u.machine.findLock(at)
	switch {
	case isHad && locks[i].Owner == u.number, !isHad && len(locks) >= api.MaxLocks:
		return u.bad()
	case isHad:
		return u.wait(api.ThLock)
	}
	u.take(at)
	return 0, true
}

// unlock gives the mutex r1 back.
func (u *turn) unlock() (uint32, bool) {
	w, at := &u.machine.world, u.CPU.R[1]
	i, isHad := u.machine.findLock(at)
	if !isHad || w.Locks[i].Owner != u.number {
		return u.bad()
	}
	w.Locks = slices.Delete(w.Locks, i, i+1)
	u.see(api.Event{Kind: api.EvUnlock, A: at})
	return 0, true
}

// findLock returns where a mutex stands, or would stand, among those that threads have, and whether one has it.
func (m *Machine) findLock(at uint32) (int, bool) {
	return slices.BinarySearchFunc(m.world.Locks, at, func(l api.Lock, at uint32) int { return cmp.Compare(l.At, at) })
}

// take gives the thread a mutex that nobody has.
func (u *turn) take(at uint32) {
	i, _ := u.machine.findLock(at)
	w := &u.machine.world
	w.Locks = slices.Insert(w.Locks, i, api.Lock{At: at, Owner: u.number})
	u.see(api.Event{Kind: api.EvLock, A: at})
}

// wait lets the thread wait for what r1 says.
func (u *turn) wait(status int) (uint32, bool) {
	u.Status, u.W = status, u.CPU.R[1]
	return 0, false
}

// canEndWait reports whether a thread waits, and its wait can end.
func (m *Machine) canEndWait(t *thread) bool {
	switch t.Status {
	case api.ThJoin:
		return m.threads[t.W].Status == api.ThDone
	case api.ThLock:
		_, isHad := m.findLock(t.W)
		return !isHad && len(m.world.Locks) < api.MaxLocks
	}
	return false
}

// wake ends the wait of the thread, if it can end.
func (u *turn) wake() {
	if !u.machine.canEndWait(u.thread) {
		return
	}
	status, awaited := u.Status, u.W
	u.Status, u.W = api.ThReady, 0
	if status == api.ThLock {
		u.take(awaited)
		u.answer(api.SysLock, 0)
		return
	}
	u.see(api.Event{Kind: api.EvJoin, N: int(awaited)})
	u.answer(api.SysJoin, 0)
}
