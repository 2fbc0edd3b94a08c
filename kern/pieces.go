package kern

import (
	"candling/api"
	"candling/mem"
)

// Wake lets a thread that waits go on, if it can; it reports whether the thread is ready.
func (m *Machine) Wake(thread int) ([]api.Event, bool, api.Errno) {
	if err := m.examine(thread); err != api.OK {
		return nil, false, err
	}
	events, _ := m.let(thread, (*turn).wake)
	return events, m.isReady(thread), api.OK
}

func (m *Machine) isReady(number int) bool { return m.threads[number].Status == api.ThReady }

// Deliver delivers the first signal that was sent to a thread and is not blocked; it reports whether there was one.
func (m *Machine) Deliver(thread int) ([]api.Event, bool, api.Errno) {
	if err := m.examine(thread); err != api.OK {
		return nil, false, err
	}
	i := m.threads[thread].nextSignal()
	if i < 0 || !m.isReady(thread) {
		return nil, false, api.OK
	}
	events, _ := m.let(thread, func(u *turn) { u.deliverSent(i) })
	return events, true, api.OK
}

// Trap does what follows a trap of a thread: a system call, a request, a signal.
func (m *Machine) Trap(thread int, t api.Trap) ([]api.Event, api.Errno) {
	if err := m.examine(thread); err != api.OK {
		return nil, err
	}
	if !isWithin(t.Kind, api.TrNone, api.TrBreak) {
		return nil, api.ErrArg
	}
	if !m.isReady(thread) {
		return nil, api.ErrState
	}
	isStep := signalOf(t.Kind) != 0
	if isStep && m.world.Steps == mostSteps {
		return nil, api.ErrLimit
	}
	events, _ := m.let(thread, func(u *turn) {
		if isStep {
			u.count()
		}
		u.follow(t)
	})
	return events, api.OK
}

// Send sends a signal to a thread.
func (m *Machine) Send(thread, sig int) api.Errno {
	if err := m.examine(thread); err != api.OK {
		return err
	}
	if !isWithin(sig, 1, api.MaxSig) {
		return api.ErrArg
	}
	m.threads[thread].send(sig)
	return api.OK
}

// CPU returns the registers of a thread.
func (m *Machine) CPU(thread int) (api.CPU, api.Errno) {
	if m.isNone() {
		return api.CPU{}, api.ErrState
	}
	if !m.hasThread(thread) {
		return api.CPU{}, api.ErrArg
	}
	return m.threads[thread].CPU, api.OK
}

// Put sets the registers of a thread behind instructions that were executed elsewhere.
func (m *Machine) Put(thread int, c api.CPU, steps int) api.Errno {
	if err := m.examine(thread); err != api.OK {
		return err
	}
	switch {
	case !m.isReady(thread):
		return api.ErrState
	case !isWithin(c.F, 0, mostFlags) || !isWithin(steps, 0, api.MaxSteps):
		return api.ErrArg
	case m.world.Steps+steps > mostSteps:
		return api.ErrLimit
	}
	m.threads[thread].CPU = c
	m.world.Steps += steps
	return api.OK
}

// Mem returns the memory itself.
func (m *Machine) Mem() *mem.Mem {
	if m.isNone() {
		return nil
	}
	return m.memory
}
