package kern

import (
	"candling/api"
	"candling/cpu"
)

// turn is what a thread does in a call of a machine, and what tools see of it.
type turn struct {
	*thread
	machine *Machine
	events  []api.Event
	steps   int
}

// theEnd is what a turn panics with when the run has ended.
type theEnd struct{}

// let lets a thread do something, up to the end of the run: the events, how many steps were made.
func (m *Machine) let(number int, do func(*turn)) (events []api.Event, steps int) {
	u := &turn{thread: m.threads[number], machine: m}
	defer func() {
		if _, hasEnded := recover().(theEnd); hasEnded {
			events, steps = u.events, u.steps
		}
	}()
	do(u)
	return u.events, u.steps
}

// examine returns the error of a call about a thread: it is ErrState without a run that goes on, otherwise ErrArg without this thread.
func (m *Machine) examine(number int) api.Errno {
	if m.Ended() {
		return api.ErrState
	}
	if !m.hasThread(number) {
		return api.ErrArg
	}
	return api.OK
}

func (m *Machine) hasThread(number int) bool { return isWithin(number, 0, len(m.threads)-1) }

// Can returns the threads that can go on, increasing.
func (m *Machine) Can() []int {
	if m.Ended() {
		return nil
	}
	var l []int
	for _, t := range m.threads {
		if t.Status == api.ThReady || m.canEndWait(t) {
			l = append(l, t.number)
		}
	}
	return l
}

// Do makes a turn: the events, how many steps were made.
func (m *Machine) Do(t api.Turn) ([]api.Event, int, api.Errno) {
	if err := m.examine(t.Thread); err != api.OK {
		return nil, 0, err
	}
	if !isWithin(t.Steps, 0, api.MaxSteps) || !isWithin(t.Sig, 0, api.MaxSig) {
		return nil, 0, api.ErrArg
	}
	if m.world.Steps+t.Steps > mostSteps {
		return nil, 0, api.ErrLimit
	}
	events, steps := m.let(t.Thread, func(u *turn) { u.carryOut(t) })
	return events, steps, api.OK
}

// Run makes turns one after the other: the events, how many turns were made.
func (m *Machine) Run(l []api.Turn) ([]api.Event, int, api.Errno) {
	if m.isNone() {
		return nil, 0, api.ErrState
	}
	var all []api.Event
	for i, t := range l {
		if m.Ended() {
			return all, i, api.OK
		}
		events, _, err := m.Do(t)
		if err != api.OK {
			return all, i, err
		}
		all = append(all, events...)
	}
	return all, len(l), api.OK
}

// Ended reports whether the run has ended.
func (m *Machine) Ended() bool { return m.isNone() || m.world.Ended }

// carryOut makes a turn.
func (u *turn) carryOut(t api.Turn) {
	if t.Sig != 0 {
		u.send(t.Sig)
	}
	u.wake()
	for u.Status == api.ThReady && u.steps < t.Steps {
		for i := u.nextSignal(); i >= 0; i = u.nextSignal() {
			u.deliverSent(i)
		}
		u.step()
	}
}

// step makes a step.
func (u *turn) step() {
	c, trap, events := cpu.Step(u.CPU, u.machine.memory)
	u.CPU = c
	for _, e := range events {
		u.note(e)
	}
	u.count()
	u.follow(trap)
}

// count says that a step has been made.
func (u *turn) count() {
	u.steps++
	u.machine.world.Steps++
}

// see adds an event of the thread, as it stands.
func (u *turn) see(e api.Event) {
	e.PC = u.CPU.PC
	u.note(e)
}

// note adds an event of the thread.
func (u *turn) note(e api.Event) {
	e.Thread = u.number
	u.events = append(u.events, e)
}

// end ends the run.
func (u *turn) end(code, sig int) {
	w := &u.machine.world
	w.Ended, w.Code, w.Sig = true, code, sig
	u.see(api.Event{Kind: api.EvEnd, N: code, A: uint32(sig)})
	panic(theEnd{})
}
