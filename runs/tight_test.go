package runs_test

import (
	"math"
	"slices"
	"testing"

	"candling/api"
	"candling/kern"
	"candling/runs"
)

// P9.2: turns of a program in which thread 0 waits for thread 1, and what the tight record has of them.
func TestTight(t *testing.T) {
	// Thread 0 begins thread 1 with 5 steps, and waits for it with 3 more; thread 1 makes 3 steps, the last of which is its end.
	joining := assembled(t, calling(api.SysSpawn, "other", 10240, 0)+calling(api.SysJoin, 1)+"again:\njmp again\nother:\nnop\n"+calling(api.SysLeave))
	type turns []api.Turn
	begin := turns{{Steps: 8}, {Thread: 1, Steps: 3}}
	for _, c := range []struct {
		name       string
		turns      turns
		want       turns
		isStraight bool // want is the turns as they are
	}{
		{"no turns", nil, nil, false},
		{"turns of nothing", turns{{}, {}, {Steps: 3}, {}, {}}, turns{{Steps: 3}}, false},
		{"one thread", turns{{Steps: 1}, {Steps: 2}, {Steps: 3}}, turns{{Steps: 6}}, false},
		{"two threads", turns{{Steps: 5}, {Thread: 1, Steps: 1}, {Steps: 2}, {Thread: 1, Steps: 1}}, nil, true},
		{"a turn of nothing between two", turns{{Steps: 5}, {Thread: 1}, {Steps: 2}}, turns{{Steps: 7}}, false},
		{"more steps than a wait lets", turns{{Steps: 100}, {Steps: 50}, {}, {Thread: 1, Steps: 2}}, turns{{Steps: 8}, {Thread: 1, Steps: 2}}, false},
		{"more steps than an end lets", turns{{Steps: 9}, {Thread: 1, Steps: 90}, {Thread: 1, Steps: 5}}, begin, false},
		{"the end of a wait", append(begin, api.Turn{}, api.Turn{Thread: 1}), append(begin, api.Turn{}), false},
		{"the end of a wait, and steps", append(begin, api.Turn{}, api.Turn{Steps: 4}), append(begin, api.Turn{Steps: 4}), false},
		{"the end of a wait, at once with steps", append(begin, api.Turn{Steps: 4}), nil, true},
		{"a signal for a thread that waits", turns{{Steps: 8}, {Sig: 5, Steps: 7}, {Steps: 3}}, turns{{Steps: 8}, {Sig: 5}}, false},
		{"a signal for a thread that is done", append(begin, api.Turn{Thread: 1, Sig: 5}, api.Turn{Thread: 1, Sig: 8, Steps: 3}), begin, false},
		{"two signals", turns{{Steps: 8}, {Sig: 5}, {Sig: 6}}, nil, true},
		{"a signal behind a turn of nothing", turns{{}, {Sig: 5}}, turns{{Sig: 5}}, false},
		{"steps behind a signal", turns{{Steps: 1}, {Sig: 5}, {}, {Thread: 0, Steps: 0}}, turns{{Steps: 1}, {Sig: 5}}, false},
		{"a run that ends by a signal", turns{{Steps: 3}, {Steps: 9, Sig: 5}}, turns{{Steps: 3}, {Steps: 1, Sig: 5}}, false},
		{"a run that ends by a signal that was sent ahead", turns{{Steps: 3}, {Sig: 5}, {Steps: 9}}, turns{{Steps: 3}, {Steps: 1, Sig: 5}}, false},
		{"a run that ends by a signal, at last", turns{{Steps: 5}, {Sig: 5}, {Thread: 1, Steps: 1}, {Steps: 9}, {Steps: 9}}, turns{{Steps: 5}, {Sig: 5}, {Thread: 1, Steps: 1}, {Steps: 1}}, false},
	} {
		want := c.want
		if c.isStraight {
			want = c.turns
		}
		got := tight(t, api.Record{Setup: joining, Turns: c.turns})
		if !sameSetup(got.Setup, joining) || !slices.Equal(got.Turns, want) {
			t.Errorf("%s: %v, want %v", c.name, got.Turns, want)
		}
	}
}

// P9.2: a run that ends by a trap, or by a signal that a thread has sent itself.
func TestTightEnds(t *testing.T) {
	for _, c := range []struct {
		source string
		want   int
	}{
		{"nop\nnop\nbrk\n", 3},
		{"nop\n.word 0\n", 2},
		{"nop\nset r1, 0\nload8 r1, [r1]\n", 3},
		{"set r15, 0\n" + calling(api.SysReturn), 3},
		{calling(api.SysExit, 1), 3},
		{calling(api.SysLeave), 2},
		{calling(api.SysKill, 0, 8) + "nop\n", 5},
		{calling(api.SysAction, 5, "main") + "set r15, 0\n" + calling(api.SysKill, 0, 5), 10},
	} {
		r := api.Record{Setup: assembled(t, c.source), Turns: []api.Turn{{Steps: 1}, {Steps: 100}, {Steps: 3}}}
		wantTurns(t, 0, tight(t, r), r.Setup, api.Turn{Steps: c.want})
		if x := run(r); !x.w.Ended || x.turns != 2 {
			t.Errorf("%q does not end", c.source)
		}
	}
}

// P9.2: no more than 64 signals wait; one that is delivered makes room for another.
func TestTightFull(t *testing.T) {
	s := assembled(t, calling(api.SysAction, 5, "again")+"again:\njmp again\n")
	sent := slices.Repeat([]api.Turn{{Sig: 5}}, 64)
	r := api.Record{Setup: s, Turns: slices.Concat([]api.Turn{{Steps: 4}}, sent, []api.Turn{{Sig: 8}, {Sig: 5, Steps: 2}, {Sig: 6}, {Sig: 7}})}
	// Signal 5 blocks itself: one of 64 is delivered.
	want := slices.Concat([]api.Turn{{Steps: 4}}, sent, []api.Turn{{Sig: 6}})
	want[64].Steps = 2
	wantTurns(t, 0, tight(t, r), s, want...)
}

// P9.2, P9.3: Tight, Schedule, Cut and At do what the model says.
func TestModel(t *testing.T) {
	count := map[string]int{}
	records(t, 250, func(seed uint64, r api.Record) {
		wantTurns(t, seed, tight(t, r), r.Setup, modelTight(t, r, func(key string) { count[key]++ })...)
		l := schedule(t, r)
		if want := modelSchedule(t, r); !slices.Equal(l, want) {
			t.Fatalf("seed %d: the schedule is %v, want %v", seed, l, want)
		}
		for _, n := range cuts(random(seed), len(l)) {
			c := cut(t, r, n)
			wantTurns(t, seed, c, r.Setup, modelCut(t, r, n)...)
			w := at(t, r, n)
			wantSameWorld(t, seed, w, run(c).w)
			if w.Steps != min(n, len(l)) {
				t.Fatalf("seed %d: %d steps, want %d", seed, w.Steps, n)
			}
		}
	})
	wantCount(t, count, 10, "not put", "fewer", "one more", "left out", "one of two", "only a wait")
}

// cuts is some numbers of steps at which a run with so many can be cut.
func cuts(r interface{ IntN(int) int }, steps int) []int {
	l := []int{0, 1, steps, steps + 1, 200000}
	if steps > 0 {
		l = append(l, steps-1)
	}
	for range 8 {
		l = append(l, r.IntN(steps+1))
	}
	return l
}

// P9.3: where a run can be cut, and what a cut leaves of turns.
func TestCut(t *testing.T) {
	r := api.Record{Setup: example(t), Turns: []api.Turn{{}, {Steps: 2}, {}, {Steps: 50}, {Steps: 1}}}
	for n, want := range [][]api.Turn{
		nil,
		{{}, {Steps: 1}},
		{{}, {Steps: 2}},
		{{}, {Steps: 2}, {}, {Steps: 1}},
		{{}, {Steps: 2}, {}, {Steps: 2}},
		{{}, {Steps: 2}, {}, {Steps: 3}},
		{{}, {Steps: 2}, {}, {Steps: 4}},
		{{}, {Steps: 2}, {}, {Steps: 50}},
	} {
		wantTurns(t, 0, cut(t, r, n), r.Setup, want...)
		if w := at(t, r, n); w.Steps != min(n, 6) || w.Ended != (n >= 6) {
			t.Errorf("%d: %d steps, ended %v", n, w.Steps, w.Ended)
		}
	}
	// A signal by which a run ends ahead of a step belongs to no step, but one that was only sent does to its turn.
	r.Turns = []api.Turn{{Steps: 2}, {Sig: 5, Steps: 2}}
	wantTurns(t, 0, cut(t, r, 2), r.Setup, api.Turn{Steps: 2})
	wantTurns(t, 0, cut(t, r, 3), r.Setup, r.Turns...)
	if w := at(t, r, 2); w.Ended || len(w.Threads[0].Sent) > 0 {
		t.Errorf("ended %v, sent %v", w.Ended, w.Threads[0].Sent)
	}
	if w := at(t, r, 3); !w.Ended || w.Sig != 5 {
		t.Errorf("ended %v, signal %d", w.Ended, w.Sig)
	}
	for _, n := range []int{-1, 200001, math.MinInt, math.MaxInt} {
		if c, err := runs.Cut(r, n); err != api.ErrArg || !sameRecord(c, api.Record{}) {
			t.Errorf("Cut at %d: %d", n, err)
		}
		if w, err := runs.At(r, n); err != api.ErrArg || !kern.Same(w, api.World{}) {
			t.Errorf("At %d: %d", n, err)
		}
	}
}

// P9.1 to P9.3: a run with as many steps as there can be, and turns of no steps behind them.
func TestLongRun(t *testing.T) {
	s := assembled(t, "again:\njmp again\n")
	r := api.Record{Setup: s, Turns: []api.Turn{{Steps: 199000}, {Steps: 1000}, {Sig: 5}}}
	if x := run(r); x.turns != 3 || x.w.Steps != 200000 || len(x.w.Threads[0].Sent) != 1 {
		t.Errorf("%d turns, %d steps, sent %v", x.turns, x.w.Steps, x.w.Threads[0].Sent)
	}
	wantTurns(t, 0, tight(t, r), s, api.Turn{Steps: 200000}, api.Turn{Sig: 5})
	wantTurns(t, 0, cut(t, r, 200000), s, r.Turns[:2]...)
	if l := schedule(t, r); len(l) != 200000 {
		t.Errorf("%d steps", len(l))
	}
}
