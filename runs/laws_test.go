package runs_test

import (
	"fmt"
	"slices"
	"testing"

	"candling/api"
	"candling/runs"
)

// P9.5: the tight record is a record of the same run, with just the steps that are made, and it is its own tight record.
func TestTightLaw(t *testing.T) {
	count := map[string]int{}
	records(t, 400, func(seed uint64, r api.Record) {
		l := tight(t, r)
		x := run(l)
		want := run(r)
		wantSameRun(t, seed, x, want)
		if x.err != api.OK || x.turns != len(l.Turns) {
			t.Fatalf("seed %d: of %v are made %d, %d", seed, l.Turns, x.turns, x.err)
		}
		wantTurns(t, seed, tight(t, l), r.Setup, l.Turns...)
		steps := schedule(t, r)
		if got := schedule(t, l); !slices.Equal(got, steps) {
			t.Fatalf("seed %d: the schedule is %v, want %v", seed, got, steps)
		}
		sum := 0
		for _, turn := range l.Turns {
			sum += turn.Steps
		}
		if more := sum - len(steps); more != 0 && (more != 1 || want.w.Sig == 0) {
			t.Fatalf("seed %d: %v, of %d steps", seed, l.Turns, len(steps))
		} else if more == 1 {
			count["one more"]++
		}
	})
	wantCount(t, count, 20, "one more")
}

// P9.6: what is cut at any step goes on as the whole.
func TestCutAnywhere(t *testing.T) {
	records(t, 60, func(seed uint64, r api.Record) {
		want := run(r)
		for n := range want.w.Steps + 1 {
			if n > 40 && n%7 > 0 {
				continue
			}
			begin := run(cut(t, r, n))
			w := at(t, r, n)
			wantSameWorld(t, seed, w, begin.w)
			x := resume(w, rest(t, r, n))
			if x.err != want.err {
				t.Fatalf("seed %d: cut at %d: %d, want %d", seed, n, x.err, want.err)
			}
			x.events = slices.Concat(begin.events, x.events)
			wantSameRun(t, seed, x, want)
		}
	})
}

// P9.7: beginnings of beginnings are beginnings.
func TestBeginnings(t *testing.T) {
	records(t, 150, func(seed uint64, r api.Record) {
		rnd := random(seed)
		l := schedule(t, r)
		for _, n := range cuts(rnd, len(l)) {
			c := cut(t, r, n)
			if got := schedule(t, c); !slices.Equal(got, l[:min(n, len(l))]) {
				t.Fatalf("seed %d: cut at %d: the schedule is %v, of %v", seed, n, got, l)
			}
			k := pick(rnd, cuts(rnd, len(l))...)
			wantTurns(t, seed, cut(t, c, k), r.Setup, cut(t, r, min(n, k)).Turns...)
		}
	})
}

// P9.8: turns that are divided are the same run.
func TestDivided(t *testing.T) {
	records(t, 300, func(seed uint64, r api.Record) {
		rnd := random(seed)
		divided := api.Record{Setup: r.Setup}
		for _, turn := range r.Turns {
			if isOneIn(rnd, 2) {
				n := rnd.IntN(turn.Steps + 1)
				divided.Turns = append(divided.Turns, api.Turn{Thread: turn.Thread, Steps: n, Sig: turn.Sig})
				turn = api.Turn{Thread: turn.Thread, Steps: turn.Steps - n}
			}
			divided.Turns = append(divided.Turns, turn)
		}
		x, want := run(divided), run(r)
		wantSameRun(t, seed, x, want)
		if x.err != want.err {
			t.Fatalf("seed %d: %d, want %d", seed, x.err, want.err)
		}
	})
}

// spoil changes all that can be changed of a record without changing the record itself.
func spoil(r api.Record) {
	for _, p := range r.Setup.Pages {
		p.B[0]++
		p.B[255]++
	}
	for i := range r.Setup.Pages {
		r.Setup.Pages[i] = page(i, 0)
	}
	for i := range r.Setup.In {
		r.Setup.In[i]++
	}
	for i := range r.Turns {
		r.Turns[i].Steps++
	}
}

// spoilWorld does so with a world.
func spoilWorld(w api.World) {
	spoil(api.Record{Setup: api.Setup{Pages: w.Pages, In: w.In}})
	for i := range w.Threads {
		for k := range w.Threads[i].Sent {
			w.Threads[i].Sent[k]++
		}
		w.Threads[i] = api.Thread{}
	}
	for i := range w.Out {
		w.Out[i]++
	}
}

// P9.9: all calls do the same again, whatever was done to what they returned, and leave their arguments as they are.
func TestDeterminism(t *testing.T) {
	records(t, 60, func(seed uint64, r api.Record) {
		before := randomRecord(t, seed)
		n := random(seed).IntN(100)
		w := at(t, r, n)
		atN := at(t, r, n)
		left := []api.Turn{{Steps: 5}, {Steps: 3}}
		all := func() string {
			x, y := run(r), resume(w, left)
			l, c, s, o, b := tight(t, r), cut(t, r, n), schedule(t, r), observe(t, r), written(t, r)
			back, err := runs.Read(b)
			text := fmt.Sprint(x, y, l, c, s, o, b, back, err)
			for _, r := range []api.Record{l, c, back} {
				spoil(r)
			}
			for _, w := range []api.World{x.w, y.w} {
				spoilWorld(w)
			}
			for _, events := range [][]api.Event{x.events, y.events, o.Signals} {
				for i := range events {
					events[i] = api.Event{}
				}
			}
			for i := range s {
				s[i]++
			}
			for i := range o.Out {
				o.Out[i]++
			}
			clear(b)
			return text
		}
		first := all()
		if second := all(); second != first {
			t.Fatalf("seed %d: %s, and then %s", seed, first, second)
		}
		if !sameRecord(r, before) || !slices.Equal(left, []api.Turn{{Steps: 5}, {Steps: 3}}) {
			t.Fatalf("seed %d: an argument has changed", seed)
		}
		wantSameWorld(t, seed, w, atN)
	})
}

// P9.10: what is seen of a run hangs on its events and its world alone, and its output and input are those of its events.
func TestObservations(t *testing.T) {
	count := map[string]int{}
	records(t, 300, func(seed uint64, r api.Record) {
		o := observe(t, r)
		if !runs.SameSeen(o, observe(t, tight(t, r))) {
			t.Fatalf("seed %d: the tight record is seen as another run", seed)
		}
		out, in := 0, 0
		for _, e := range run(r).events {
			switch e.Kind {
			case api.EvOutput:
				out += e.N
			case api.EvInput:
				in += e.N
			}
		}
		if len(o.Out) != out || o.Read != in {
			t.Fatalf("seed %d: %d bytes of output, %d of input, want %d, %d", seed, len(o.Out), o.Read, out, in)
		}
		if out > 0 {
			count["output"]++
		}
		if in > 0 {
			count["input"]++
		}
		if len(o.Signals) > 0 {
			count["signals"]++
		}
	})
	wantCount(t, count, 50, "output", "input", "signals")
}

// P9.12: each entry of the schedule is a thread that the run has, and all steps are in it.
func TestScheduleLaw(t *testing.T) {
	records(t, 300, func(seed uint64, r api.Record) {
		x, l := run(r), schedule(t, r)
		entries := make([]int, len(x.w.Threads))
		for _, thread := range l {
			if thread < 0 || thread >= len(entries) {
				t.Fatalf("seed %d: there is no thread %d", seed, thread)
			}
			entries[thread]++
		}
		for _, e := range x.events {
			if e.Kind == api.EvExec {
				entries[e.Thread]--
			}
		}
		if slices.Min(entries) < 0 || len(l) != x.w.Steps {
			t.Fatalf("seed %d: entries that are no instructions: %v; %d of %d steps", seed, entries, len(l), x.w.Steps)
		}
	})
}
