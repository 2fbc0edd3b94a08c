package kern

import "candling/api"

// follow does what follows a trap.
func (u *turn) follow(t api.Trap) {
	switch t.Kind {
	case api.TrNone:
	case api.TrSys:
		u.call()
	case api.TrReq:
		u.see(api.Event{Kind: api.EvRequest, A: u.CPU.R[0], B: u.CPU.R[1]})
		u.CPU.R[0] = 0
	case api.TrSegv, api.TrAlign:
		u.raise(signalOf(t.Kind), t.Addr)
	default:
		u.raise(signalOf(t.Kind), u.CPU.PC)
	}
}

// signalOf returns the signal that a kind of traps raises, or 0.
func signalOf(kind int) int {
	switch kind {
	case api.TrSegv, api.TrAlign:
		return api.SigSegv
	case api.TrIll:
		return api.SigIll
	case api.TrDiv:
		return api.SigDiv
	case api.TrBreak:
		return api.SigBreak
	}
	return 0
}

// calls returns what system calls do, by their numbers. Each one returns its result, and whether it returns at all, at once.
func calls() map[uint32]func(*turn) (uint32, bool) {
	return map[uint32]func(*turn) (uint32, bool){
		api.SysExit:    (*turn).exit,
		api.SysLeave:   (*turn).leave,
		api.SysWrite:   (*turn).write,
		api.SysRead:    (*turn).read,
		api.SysMap:     (*turn).mapPages,
		api.SysUnmap:   (*turn).unmapPages,
		api.SysProtect: (*turn).protectPages,
		api.SysSpawn:   (*turn).spawn,
		api.SysJoin:    (*turn).join,
		api.SysYield:   (*turn).yield,
		api.SysLock:    (*turn).lock,
		api.SysUnlock:  (*turn).unlock,
		api.SysAction:  (*turn).setAction,
		api.SysReturn:  (*turn).comeBack,
		api.SysKill:    (*turn).kill,
		api.SysMask:    (*turn).setMask,
		api.SysAlloc:   (*turn).alloc,
		api.SysFree:    (*turn).free,
		api.SysSize:    (*turn).size,
		api.SysClock:   (*turn).clock,
		api.SysResize:  (*turn).resize,
	}
}

// call makes the system call whose number is in r0.
func (u *turn) call() {
	number := u.CPU.R[0]
	result, returns := u.bad()
	if do, isCall := calls()[number]; isCall {
		result, returns = do(u)
	}
	if returns {
		u.answer(number, result)
	}
}

// bad is the result of a call that cannot be done.
func (u *turn) bad() (uint32, bool) { return api.SysBad, true }

// answer returns from a system call.
func (u *turn) answer(number, result uint32) {
	u.CPU.R[0] = result
	u.see(api.Event{Kind: api.EvSys, A: number, B: result})
}
