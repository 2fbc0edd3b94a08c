package runs_test

import (
	"math"
	"slices"
	"testing"

	"candling/api"
	"candling/kern"
	"candling/runs"
)

// P9.1 to P9.3: the chapter's examples.
func TestExamples(t *testing.T) {
	s := example(t)
	r := api.Record{Setup: s, Turns: []api.Turn{{Steps: 3}, {Steps: 100}}}
	x := run(r)
	if !x.w.Ended || x.w.Code != 7 || x.w.Steps != 6 || x.turns != 2 || x.err != api.OK {
		t.Errorf("Run: ended %v, code %d, %d steps, %d turns, %d", x.w.Ended, x.w.Code, x.w.Steps, x.turns, x.err)
	}
	if n := len(x.events); n != 9 || x.events[n-1].Kind != api.EvEnd || x.events[3].Kind != api.EvAlloc {
		t.Errorf("Run: %v", x.events)
	}
	wantTurns(t, 0, tight(t, r), s, api.Turn{Steps: 6})
	if l := schedule(t, r); !slices.Equal(l, make([]int, 6)) {
		t.Errorf("Schedule: %v", l)
	}
	wantTurns(t, 0, cut(t, r, 4), s, api.Turn{Steps: 3}, api.Turn{Steps: 1})
	if w := at(t, r, 4); w.Steps != 4 || w.Ended {
		t.Errorf("At: %d steps, ended %v", w.Steps, w.Ended)
	}
	if o := observe(t, r); !runs.SameSeen(o, api.Seen{Ended: true, Code: 7}) {
		t.Errorf("Observe: %v", o)
	}
	r.Turns = []api.Turn{{}, {Steps: 2}, {Sig: 5}, {Steps: 1}}
	wantTurns(t, 0, tight(t, r), s, api.Turn{Steps: 2}, api.Turn{Steps: 1, Sig: 5})
}

// all is the calls with a record; each returns its error, and whether all else is zero.
func all(r api.Record) map[string]func() (api.Errno, bool) {
	isNone := func(r api.Record) bool { return sameRecord(r, api.Record{}) }
	return map[string]func() (api.Errno, bool){
		"Check":    func() (api.Errno, bool) { return runs.Check(r), true },
		"Run":      func() (api.Errno, bool) { x := run(r); return x.err, x.isNothing() },
		"Observe":  func() (api.Errno, bool) { s, err := runs.Observe(r); return err, runs.SameSeen(s, api.Seen{}) },
		"Tight":    func() (api.Errno, bool) { x, err := runs.Tight(r); return err, isNone(x) },
		"Schedule": func() (api.Errno, bool) { l, err := runs.Schedule(r); return err, len(l) == 0 },
		"Cut":      func() (api.Errno, bool) { x, err := runs.Cut(r, 2); return err, isNone(x) },
		"Cut at -1": func() (api.Errno, bool) {
			x, err := runs.Cut(r, -1)
			return err, isNone(x)
		},
		"At":       func() (api.Errno, bool) { w, err := runs.At(r, 2); return err, kern.Same(w, api.World{}) },
		"At of -1": func() (api.Errno, bool) { w, err := runs.At(r, -1); return err, kern.Same(w, api.World{}) },
		"Bytes":    func() (api.Errno, bool) { b, err := runs.Bytes(r); return err, len(b) == 0 },
	}
}

// P9.1 to P9.4: records that are not valid, and those that just are.
func TestValid(t *testing.T) {
	repeated := func(n int, turn api.Turn) []api.Turn { return slices.Repeat([]api.Turn{turn}, n) }
	for _, c := range []struct {
		name   string
		change func(r *api.Record)
		is     bool
	}{
		{"as it is", func(r *api.Record) {}, true},
		{"no turns", func(r *api.Record) { r.Turns = nil }, true},
		{"a setup that is none", func(r *api.Record) { r.Setup = api.Setup{} }, false},
		{"pages out of order", func(r *api.Record) { slices.Reverse(r.Setup.Pages) }, false},
		{"a page that is too short", func(r *api.Record) { r.Setup.Pages[0].B = r.Setup.Pages[0].B[:255] }, false},
		{"rights 8", func(r *api.Record) { r.Setup.Pages[0].Rights = 8 }, false},
		{"a page of the heap", func(r *api.Record) { r.Setup.Pages = append(r.Setup.Pages, page(67, 3)) }, false},
		{"no heap", func(r *api.Record) { r.Setup.Heap = api.HeapConf{} }, false},
		{"a heap without pages", func(r *api.Record) { r.Setup.Heap = api.HeapConf{Page: 1} }, true},
		{"too many pages", func(r *api.Record) { r.Setup.Heap.N = 2000 }, false},
		{"long input", func(r *api.Record) { r.Setup.In = make([]byte, 65536) }, true},
		{"too long input", func(r *api.Record) { r.Setup.In = make([]byte, 65537) }, false},
		{"thread -1", func(r *api.Record) { r.Turns[0].Thread = -1 }, false},
		{"thread 7", func(r *api.Record) { r.Turns[1].Thread = 7 }, true},
		{"thread 8", func(r *api.Record) { r.Turns[1].Thread = 8 }, false},
		{"signal -1", func(r *api.Record) { r.Turns[1].Sig = -1 }, false},
		{"signal 8", func(r *api.Record) { r.Turns[1].Sig = 8 }, true},
		{"signal 9", func(r *api.Record) { r.Turns[1].Sig = 9 }, false},
		{"steps -1", func(r *api.Record) { r.Turns[1].Steps = -1 }, false},
		{"steps -1 that others make up for", func(r *api.Record) { r.Turns = []api.Turn{{Steps: -1}, {Steps: 5}} }, false},
		{"200000 steps", func(r *api.Record) { r.Turns = []api.Turn{{Steps: 200000}, {}} }, true},
		{"200001 steps", func(r *api.Record) { r.Turns = []api.Turn{{Steps: 200001}} }, false},
		{"200000 steps and one", func(r *api.Record) { r.Turns = []api.Turn{{Steps: 200000}, {Steps: 1}} }, false},
		{"the most steps", func(r *api.Record) { r.Turns = []api.Turn{{Steps: math.MaxInt}, {Steps: math.MaxInt}, {Steps: 2}} }, false},
		{"5000 turns", func(r *api.Record) { r.Turns = repeated(5000, api.Turn{Steps: 40}) }, true},
		{"5001 turns", func(r *api.Record) { r.Turns = repeated(5001, api.Turn{}) }, false},
		{"5000 turns with too many steps", func(r *api.Record) { r.Turns = append(repeated(4999, api.Turn{Steps: 40}), api.Turn{Steps: 41}) }, false},
		{"what is wrong behind the end of the run", func(r *api.Record) { r.Turns = []api.Turn{{Steps: 100}, {Thread: 8}} }, false},
	} {
		r := api.Record{Setup: example(t), Turns: []api.Turn{{Steps: 1}, {Steps: 1}}}
		c.change(&r)
		want := api.ErrRecord
		if c.is {
			want = api.OK
		}
		if got := runs.Check(r); got != want {
			t.Errorf("%s: Check is %d, want %d", c.name, got, want)
		}
		if c.is {
			continue
		}
		for name, f := range all(r) {
			if err, isNothing := f(); err != api.ErrRecord || name != "Check" && !isNothing {
				t.Errorf("%s: %s is %d, nothing else: %v", c.name, name, err, isNothing)
			}
		}
	}
}

// P9.1: a turn of a thread that is not there, and all behind it, is not made.
func TestRunUpToError(t *testing.T) {
	r := api.Record{Setup: example(t), Turns: []api.Turn{{Steps: 2}, {Steps: 2}, {Thread: 1, Steps: 3}, {Steps: 100}}}
	x := run(r)
	want := run(api.Record{Setup: r.Setup, Turns: r.Turns[:2]})
	if x.err != api.ErrArg || x.turns != 2 || x.w.Steps != 4 || want.err != api.OK || want.turns != 2 {
		t.Errorf("%d turns, %d, %d steps", x.turns, x.err, x.w.Steps)
	}
	wantSameRun(t, 0, x, want)
	if o := observe(t, r); !runs.SameSeen(o, api.Seen{}) {
		t.Errorf("Observe: %v", o)
	}
	wantTurns(t, 0, tight(t, r), r.Setup, api.Turn{Steps: 4})
	wantTurns(t, 0, cut(t, r, 5), r.Setup, r.Turns[:2]...)
	if l := schedule(t, r); len(l) != 4 {
		t.Errorf("Schedule: %v", l)
	}
	wantSameWorld(t, 0, at(t, r, 200000), want.w)
}

// P9.1: no turns are made behind the end, whatever threads they are of.
func TestRunBehindEnd(t *testing.T) {
	r := api.Record{Setup: example(t), Turns: []api.Turn{{Steps: 6}, {Thread: 7, Steps: 3}, {Steps: 3, Sig: 8}}}
	if x := run(r); x.err != api.OK || x.turns != 1 || !x.w.Ended || x.w.Sig != 0 {
		t.Errorf("%d turns, %d, signal %d", x.turns, x.err, x.w.Sig)
	}
	wantTurns(t, 0, tight(t, r), r.Setup, api.Turn{Steps: 6})
	wantTurns(t, 0, cut(t, r, 7), r.Setup, api.Turn{Steps: 6})
	r.Turns = nil
	if x := run(r); x.err != api.OK || x.turns != 0 || len(x.events) > 0 || x.w.Steps != 0 || x.w.Threads[0].CPU.PC != 4096 {
		t.Errorf("no turns: %d turns, %d, %v", x.turns, x.err, x.events)
	}
}

// P9.1: Resume goes on from any world, and reports what is wrong with the world ahead of what is wrong with the turns.
func TestResume(t *testing.T) {
	r := api.Record{Setup: example(t), Turns: []api.Turn{{Steps: 3}}}
	w := run(r).w
	if x := resume(w, []api.Turn{{Steps: 1}, {Steps: 100}, {Thread: 5}}); x.err != api.OK || x.turns != 2 || len(x.events) != 4 || x.w.Code != 7 {
		t.Errorf("%d turns, %d, %v", x.turns, x.err, x.events)
	}
	if x := resume(w, nil); x.err != api.OK || x.turns != 0 || len(x.events) > 0 || !kern.Same(x.w, w) {
		t.Errorf("no turns: %d turns, %d, %v", x.turns, x.err, x.events)
	}
	x := resume(w, []api.Turn{{Steps: 2}, {Thread: 1}, {Steps: 1}})
	if x.err != api.ErrArg || x.turns != 1 || len(x.events) != 2 || x.w.Steps != 5 {
		t.Errorf("up to an error: %d turns, %d, %v, %d steps", x.turns, x.err, x.events, x.w.Steps)
	}
	late := w
	late.Steps = 1000000000 - 1
	if x := resume(late, []api.Turn{{Steps: 1}, {Steps: 1}}); x.err != api.ErrLimit || x.turns != 1 || x.w.Steps != 1000000000 || len(x.events) != 1 {
		t.Errorf("up to the limit: %d turns, %d, %v", x.turns, x.err, x.events)
	}
	bad := []api.Turn{{Steps: 1}, {Sig: 9}}
	for _, l := range [][]api.Turn{bad, {{Steps: 200000}, {Steps: 1}}, {{Thread: 8}}, {{Steps: -1}}, make([]api.Turn, 5001)} {
		if x := resume(w, l); x.err != api.ErrArg || !x.isNothing() {
			t.Errorf("%d turns that are not valid: %d", len(l), x.err)
		}
	}
	if x := resume(w, make([]api.Turn, 5000)); x.err != api.OK || x.turns != 5000 {
		t.Errorf("5000 turns: %d, %d", x.turns, x.err)
	}
	if x := resume(api.World{}, bad); x.err != api.ErrWorld || !x.isNothing() {
		t.Errorf("no world: %d", x.err)
	}
	ended := run(api.Record{Setup: r.Setup, Turns: []api.Turn{{Steps: 6}}}).w
	if x := resume(ended, []api.Turn{{Steps: 1, Sig: 8}, {Thread: 7}}); x.err != api.OK || x.turns != 0 || len(x.events) > 0 || !kern.Same(x.w, ended) {
		t.Errorf("behind the end: %d turns, %d, %v", x.turns, x.err, x.events)
	}
	if x := resume(ended, bad); x.err != api.ErrArg || !x.isNothing() {
		t.Errorf("behind the end, turns that are not valid: %d", x.err)
	}
}

// P9.1: what is seen of a run: its output, how it ended, what it read, and its signals, also those that ended it.
func TestObserve(t *testing.T) {
	r := api.Record{Setup: workers(t), Turns: []api.Turn{{Steps: 10}, {Thread: 1, Steps: 16}}}
	want := api.Seen{Out: []byte{1, 0, 0, 0, 's'}, Read: 2}
	if o := observe(t, r); !runs.SameSeen(o, want) {
		t.Errorf("%v, want %v", o, want)
	}
	r = api.Record{
		Setup: assembled(t, calling(api.SysAction, 5, "main")),
		Turns: []api.Turn{{Steps: 4}, {Steps: 1, Sig: 5}, {Steps: 1, Sig: 8}},
	}
	want = api.Seen{Ended: true, Sig: 8, Signals: []api.Event{
		{Kind: api.EvSignal, PC: 4096 + 28, A: 4096, N: 5},
		{Kind: api.EvSignal, PC: 4096 + 8, N: 8},
	}}
	if o := observe(t, r); !runs.SameSeen(o, want) {
		t.Errorf("%v, want %v", o, want)
	}
}

// P9.1: all fields of observations count; nil and empty lists are equal.
func TestSameSeen(t *testing.T) {
	seen := func() api.Seen {
		return api.Seen{Out: []byte{1, 2}, Ended: true, Code: 3, Sig: 4, Read: 5, Signals: []api.Event{{Kind: 9, N: 4}, {Kind: 9}}}
	}
	a := seen()
	if !runs.SameSeen(a, seen()) || !runs.SameSeen(api.Seen{}, api.Seen{Out: []byte{}, Signals: []api.Event{}}) {
		t.Errorf("equal ones are not the same")
	}
	for i, change := range []func(s *api.Seen){
		func(s *api.Seen) { s.Out[1] = 3 },
		func(s *api.Seen) { s.Out = s.Out[:1] },
		func(s *api.Seen) { s.Out = append(s.Out, 0) },
		func(s *api.Seen) { s.Out = nil },
		func(s *api.Seen) { s.Ended = false },
		func(s *api.Seen) { s.Code = 4 },
		func(s *api.Seen) { s.Sig = 3 },
		func(s *api.Seen) { s.Read = 6 },
		func(s *api.Seen) { s.Signals[1].A = 1 },
		func(s *api.Seen) { s.Signals[0], s.Signals[1] = s.Signals[1], s.Signals[0] },
		func(s *api.Seen) { s.Signals = s.Signals[1:] },
		func(s *api.Seen) { s.Signals = nil },
	} {
		b := seen()
		change(&b)
		if runs.SameSeen(a, b) || runs.SameSeen(b, a) {
			t.Errorf("change %d: %v is the same as %v", i, b, a)
		}
	}
}

// P9.1: Run and Observe do what the model says.
func TestRunModel(t *testing.T) {
	count := map[string]int{}
	records(t, 300, func(seed uint64, r api.Record) {
		made, err := modelOf(t, r)
		x := run(r)
		if x.turns != len(made) || x.err != err {
			t.Fatalf("seed %d: %d turns, %d, want %d, %d", seed, x.turns, x.err, len(made), err)
		}
		want := executed{}
		m, _ := kern.New(r.Setup)
		want.w = m.Save()
		for _, p := range made {
			want.w, want.events = p.after.Save(), append(want.events, p.events...)
		}
		wantSameRun(t, seed, x, want)
		wantSeen(t, seed, observe(t, r), want)
		switch {
		case err != api.OK:
			count["an error"]++
		case want.w.Sig != 0:
			count["ended by a signal"]++
		case want.w.Ended:
			count["ended"]++
		default:
			count["went on"]++
		}
	})
	wantCount(t, count, 10, "an error", "ended by a signal", "ended", "went on")
}

func wantSeen(t *testing.T, seed uint64, got api.Seen, x executed) {
	t.Helper()
	want := api.Seen{Out: x.w.Out, Ended: x.w.Ended, Code: x.w.Code, Sig: x.w.Sig, Read: x.w.InAt}
	for _, e := range x.events {
		if e.Kind == api.EvSignal {
			want.Signals = append(want.Signals, e)
		}
	}
	if !runs.SameSeen(got, want) {
		t.Fatalf("seed %d: seen is %v, want %v", seed, got, want)
	}
}
