package runs

import (
	"bytes"
	"iter"
	"slices"

	"candling/api"
	"candling/kern"
)

// execution is what executes a record: the machine, and what it is to do.
type execution struct {
	*kern.Machine
	api.Record
}

// made is a turn that was made.
type made struct {
	api.Turn
	events []api.Event
	steps  int // that were made in it
}

// begin returns the execution of a record, with no turn made yet.
func begin(r api.Record) (*execution, api.Errno) {
	if !areTurns(r.Turns) {
		return nil, api.ErrRecord
	}
	m, err := kern.New(r.Setup)
	if err != api.OK {
		return nil, api.ErrRecord
	}
	return &execution{m, r}, api.OK
}

// areTurns reports whether turns are as in a valid record.
func areTurns(l []api.Turn) bool {
	steps := 0
	for _, t := range l {
		if !isWithin(t.Thread, 0, api.MaxThreads-1) || !isWithin(t.Steps, 0, api.MaxSteps) || !isWithin(t.Sig, 0, api.MaxSig) {
			return false
		}
		steps += t.Steps
	}
	return len(l) <= api.MaxTurns && steps <= api.MaxSteps
}

func isWithin(n, least, most int) bool { return n >= least && n <= most }

// copied returns a setup that shares no memory with another one.
func copied(s api.Setup) api.Setup {
	s.Pages = slices.Clone(s.Pages)
	for i, p := range s.Pages {
		s.Pages[i].B = bytes.Clone(p.B)
	}
	s.In = bytes.Clone(s.In)
	return s
}

// all makes all turns: the world in the end, the events, and how many turns were made.
func (x *execution) all() (api.World, []api.Event, int, api.Errno) {
	events, turns, err := x.Run(x.Turns)
	return x.Save(), events, turns, err
}

// upTo makes the turns that are needed for the first n steps, and yields them. Of the turn in which the last of these steps is made, no more is made.
func (x *execution) upTo(n int) iter.Seq[made] {
	return func(yield func(made) bool) {
		left := n
		for _, t := range x.Turns {
			if left == 0 {
				return
			}
			events, steps, err := x.Do(api.Turn{Thread: t.Thread, Steps: min(t.Steps, left), Sig: t.Sig})
			// A turn cannot be made, either, when the run has ended.
			if err != api.OK {
				return
			}
			left -= steps
			if left == 0 {
				t.Steps = steps
			}
			if !yield(made{t, events, steps}) {
				return
			}
		}
	}
}

// beginning executes the beginning of a run with n steps; its record is that of the beginning.
func beginning(r api.Record, n int) (*execution, api.Errno) {
	x, err := begin(r)
	if err != api.OK {
		return nil, err
	}
	if !isWithin(n, 0, api.MaxSteps) {
		return nil, api.ErrArg
	}
	var l []api.Turn
	for d := range x.upTo(n) {
		l = append(l, d.Turn)
	}
	x.Turns = l
	return x, api.OK
}

// follow makes what the tight record has of a turn, and adds it to the record. hasEnded says whether the run has ended in the whole turn.
func (x *execution) follow(d made, hasEnded bool) {
	t := api.Turn{Thread: d.Thread, Steps: d.steps, Sig: d.Sig}
	if t.Sig != 0 && !x.takesSignals(t.Thread) {
		t.Sig = 0
	}
	x.Do(t)
	if hasEnded && !x.Ended() {
		// The signal by which the run ends is delivered ahead of a step that is not made any more.
		t.Steps++
	}
	// A turn that sends nothing and makes no steps can only end a wait, and that has events.
	if t.Sig != 0 || t.Steps > 0 || len(d.events) > 0 {
		x.add(t)
	}
}

// takesSignals reports whether a signal that is sent to a thread now is put behind the others.
func (x *execution) takesSignals(thread int) bool {
	t := x.Save().Threads[thread]
	return t.Status != api.ThDone && len(t.Sent) < api.MaxSent
}

// add adds a turn to the record, as one with the last one if both can be one.
func (x *execution) add(t api.Turn) {
	last := len(x.Turns) - 1
	if t.Sig == 0 && last >= 0 && x.Turns[last].Thread == t.Thread {
		x.Turns[last].Steps += t.Steps
		return
	}
	x.Turns = append(x.Turns, t)
}
