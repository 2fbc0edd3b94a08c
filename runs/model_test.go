package runs_test

import (
	"slices"
	"testing"

	"candling/api"
	"candling/kern"
)

// played is a turn of a run, as the model makes it: the machine ahead of it and behind it, its events, and the number of its steps.
type played struct {
	api.Turn
	before, after *kern.Machine
	events        []api.Event
	steps         int
}

// modelOf returns the turns that are made in a run, and the error of the one that cannot be made.
func modelOf(t *testing.T, r api.Record) ([]played, api.Errno) {
	t.Helper()
	m, err := kern.New(r.Setup)
	wantOK(t, "New", err)
	var l []played
	for _, turn := range r.Turns {
		if m.Ended() {
			break
		}
		p := played{Turn: turn, before: m, after: m.Clone()}
		p.events, p.steps, err = p.after.Do(turn)
		if err != api.OK {
			return l, err
		}
		l = append(l, p)
		m = p.after
	}
	return l, api.OK
}

// isPut reports whether the signal of a turn is put behind those that have been sent to the thread.
func (p played) isPut() bool {
	thread := p.before.Save().Threads[p.Thread]
	return p.Sig != 0 && thread.Status != api.ThDone && len(thread.Sent) < 64
}

// least returns the turn with the least number of steps that has the same events and leads to the same world; it tries all numbers.
func (p played) least(t *testing.T, turn api.Turn) api.Turn {
	t.Helper()
	want := p.after.Save()
	for turn.Steps = range p.Steps + 1 {
		m := p.before.Clone()
		events, _, err := m.Do(turn)
		wantOK(t, "Do", err)
		if slices.Equal(events, p.events) && kern.Same(m.Save(), want) {
			return turn
		}
	}
	t.Fatalf("no number of steps is as good as %v", p.Turn)
	return turn
}

// modelTight is the turns of the tight record, by the chapter's rules one after the other; sees is told what they do.
func modelTight(t *testing.T, r api.Record, sees func(string)) []api.Turn {
	t.Helper()
	made, _ := modelOf(t, r)
	var l []api.Turn
	for _, p := range made {
		turn := p.Turn
		if turn.Sig != 0 && !p.isPut() {
			turn.Sig = 0
			sees("not put")
		}
		turn = p.least(t, turn)
		if turn.Steps < p.Steps {
			sees("fewer")
		}
		if turn.Steps > p.steps {
			sees("one more")
		}
		changes := !kern.Same(p.before.Save(), p.after.Save())
		switch last := len(l) - 1; {
		case turn.Sig == 0 && turn.Steps == 0 && !changes:
			sees("left out")
		case turn.Sig == 0 && last >= 0 && l[last].Thread == turn.Thread:
			l[last].Steps += turn.Steps
			sees("one of two")
		default:
			if turn.Sig == 0 && turn.Steps == 0 {
				sees("only a wait")
			}
			l = append(l, turn)
		}
	}
	return l
}

// modelSchedule is the thread of each step: each step is made as a turn of its own.
func modelSchedule(t *testing.T, r api.Record) []int {
	t.Helper()
	m, err := kern.New(r.Setup)
	wantOK(t, "New", err)
	var l []int
	for _, turn := range r.Turns {
		if _, _, err := m.Do(api.Turn{Thread: turn.Thread, Sig: turn.Sig}); err != api.OK {
			break
		}
		for range turn.Steps {
			_, n, _ := m.Do(api.Turn{Thread: turn.Thread, Steps: 1})
			l = append(l, slices.Repeat([]int{turn.Thread}, n)...)
		}
	}
	return l
}

// modelCut is the turns of the beginning with n steps.
func modelCut(t *testing.T, r api.Record, n int) []api.Turn {
	t.Helper()
	made, _ := modelOf(t, r)
	ahead := 0
	for i, p := range made {
		if n > ahead && n <= ahead+p.steps {
			return append(slices.Clone(r.Turns[:i]), api.Turn{Thread: p.Thread, Steps: n - ahead, Sig: p.Sig})
		}
		ahead += p.steps
	}
	if n == 0 {
		return nil
	}
	return r.Turns[:len(made)]
}

// rest is the turns of a run that are left behind its first n steps, of which there are so many.
func rest(t *testing.T, r api.Record, n int) []api.Turn {
	t.Helper()
	if n == 0 {
		return r.Turns
	}
	made, _ := modelOf(t, r)
	ahead := 0
	for i, p := range made {
		if n <= ahead+p.steps {
			left := api.Turn{Thread: p.Thread, Steps: p.Steps - (n - ahead)}
			return append([]api.Turn{left}, r.Turns[i+1:]...)
		}
		ahead += p.steps
	}
	t.Fatalf("there are no %d steps", n)
	return nil
}

// modelPacked is the packed bytes of a page: what stands at an index is found byte by byte.
func modelPacked(page []byte) []byte {
	isThree := func(i int) bool { return i+2 < len(page) && page[i] == page[i+1] && page[i] == page[i+2] }
	var b []byte
	for i := 0; i < len(page); {
		n := 0
		if isThree(i) {
			for i+n < len(page) && page[i+n] == page[i] && n < 130 {
				n++
			}
			b = append(b, byte(n+125), page[i])
		} else {
			for i+n < len(page) && !isThree(i+n) && n < 128 {
				n++
			}
			b = append(b, byte(n-1))
			b = append(b, page[i:i+n]...)
		}
		i += n
	}
	return b
}
