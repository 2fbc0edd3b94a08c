package kern_test

import (
	"encoding/binary"
	"math"
	"slices"
	"testing"

	"candling/api"
	"candling/kern"
)

// P8.1 to P8.3: the chapter's examples.
func TestExamples(t *testing.T) {
	m := made(t, example())
	events, n := done(t, m, api.Turn{Steps: 3})
	wantEvents(t, events,
		api.Event{Kind: api.EvExec, PC: 4096, N: 8},
		api.Event{Kind: api.EvExec, PC: 4104, N: 8},
		api.Event{Kind: api.EvExec, PC: 4112, N: 4},
		api.Event{Kind: api.EvAlloc, PC: 4116, A: 16392, N: 10},
		api.Event{Kind: api.EvSys, PC: 4116, A: 16, B: 16392},
	)
	if c, err := m.CPU(0); n != 3 || c.R[0] != 16392 || err != api.OK || m.Save().Steps != 3 {
		t.Errorf("%d steps, %v, %d, %d", n, c, err, m.Save().Steps)
	}
	events, n = done(t, m, api.Turn{Steps: 100})
	wantEvents(t, events,
		api.Event{Kind: api.EvExec, PC: 4116, N: 8},
		api.Event{Kind: api.EvExec, PC: 4124, N: 8},
		api.Event{Kind: api.EvExec, PC: 4132, N: 4},
		api.Event{Kind: api.EvEnd, PC: 4136, N: 7},
	)
	if w := m.Save(); n != 3 || !m.Ended() || w.Code != 7 || w.Sig != 0 || w.Steps != 6 || m.Can() != nil {
		t.Errorf("%d steps, %v", n, brief(w))
	}
	if events, n, err := m.Do(api.Turn{Steps: 1}); events != nil || n != 0 || err != api.ErrState {
		t.Errorf("Do behind the end: %v, %d, %d", events, n, err)
	}
	m = made(t, example())
	events, n = done(t, m, api.Turn{Steps: 2, Sig: 5})
	wantEvents(t, events,
		api.Event{Kind: api.EvSignal, PC: 4096, N: 5},
		api.Event{Kind: api.EvEnd, PC: 4096, A: 5},
	)
	if w := m.Save(); n != 0 || w.Sig != 5 || w.Code != 0 || w.Threads[0].Sent != nil && len(w.Threads[0].Sent) > 0 {
		t.Errorf("%d steps, %v", n, brief(w))
	}
	w := made(t, example()).Save()
	w.Actions[4] = 4096
	events, n = done(t, loaded(t, w), api.Turn{Steps: 2, Sig: 5})
	wantEvents(t, events,
		api.Event{Kind: api.EvStore, PC: 4096, A: 8244, N: 204},
		api.Event{Kind: api.EvSignal, PC: 4096, N: 5, A: 4096},
		api.Event{Kind: api.EvExec, PC: 4096, N: 8},
		api.Event{Kind: api.EvExec, PC: 4104, N: 8},
	)
	if n != 2 {
		t.Errorf("%d steps", n)
	}
	if err := kern.Check(api.World{}); err != api.ErrWorld {
		t.Errorf("no threads: %d", err)
	}
}

// P8.2: what turns can be made; the errors of others, in their order, change nothing.
func TestDoErrors(t *testing.T) {
	w := valid(t)
	w.Steps = mostSteps - 200000
	for _, c := range []struct {
		turn api.Turn
		want api.Errno
	}{
		{api.Turn{Thread: 3, Steps: 200000, Sig: 8}, api.OK},
		{api.Turn{Thread: 1}, api.OK},
		{api.Turn{Thread: 2, Sig: 1}, api.OK},
		{api.Turn{Thread: 4}, api.ErrArg},
		{api.Turn{Thread: -1}, api.ErrArg},
		{api.Turn{Thread: 8, Steps: 200001}, api.ErrArg},
		{api.Turn{Steps: -1}, api.ErrArg},
		{api.Turn{Steps: 200001}, api.ErrArg},
		{api.Turn{Steps: math.MaxInt}, api.ErrArg},
		{api.Turn{Sig: -1}, api.ErrArg},
		{api.Turn{Sig: 9}, api.ErrArg},
	} {
		wantDo(t, w, c.turn, c.want)
	}
	w.Steps++
	wantDo(t, w, api.Turn{Thread: 3, Steps: 200000}, api.ErrLimit)
	wantDo(t, w, api.Turn{Thread: 3, Steps: 199999}, api.OK)
	wantDo(t, w, api.Turn{Thread: 3, Steps: 200001}, api.ErrArg)
	wantDo(t, w, api.Turn{Thread: 4, Steps: 200000}, api.ErrArg)
	w.Steps = mostSteps
	wantDo(t, w, api.Turn{Sig: 1}, api.OK)
	wantDo(t, w, api.Turn{Steps: 1}, api.ErrLimit)
	w.Ended = true
	wantDo(t, w, api.Turn{}, api.ErrState)
	wantDo(t, w, api.Turn{Thread: 4, Steps: 1}, api.ErrState)
}

// wantDo holds that a turn of a world has an error, and then changes nothing, or has none.
func wantDo(t *testing.T, w api.World, turn api.Turn, want api.Errno) {
	t.Helper()
	m := loaded(t, w)
	events, n, err := m.Do(turn)
	if err != want {
		t.Fatalf("%v: %d, want %d", turn, err, want)
	}
	if err == api.OK {
		return
	}
	wantSame(t, m, w)
	if events != nil || n != 0 {
		t.Fatalf("%v: %v, %d", turn, events, n)
	}
}

// P8.2: turns one after the other, up to an error, or the end.
func TestRun(t *testing.T) {
	for _, c := range []struct {
		turns          []api.Turn
		events, number int
		err            api.Errno
	}{
		{nil, 0, 0, api.OK},
		{[]api.Turn{{Steps: 1}, {}, {Steps: 1}}, 2, 3, api.OK},
		{[]api.Turn{{Steps: 3}, {Steps: 100}, {Steps: 1}, {Thread: 9}}, 9, 2, api.OK},
		{[]api.Turn{{Steps: 3}, {Thread: 1}, {Steps: 100}}, 5, 1, api.ErrArg},
		{[]api.Turn{{Steps: -1}}, 0, 0, api.ErrArg},
	} {
		m := made(t, example())
		events, n, err := m.Run(c.turns)
		if len(events) != c.events || n != c.number || err != c.err {
			t.Errorf("%v: %v, %d, %d", c.turns, events, n, err)
		}
		before := m.Save()
		if !m.Ended() {
			continue
		}
		if events, n, err := m.Run([]api.Turn{{Thread: 9}}); events != nil || n != 0 || err != api.OK {
			t.Errorf("behind the end: %v, %d, %d", events, n, err)
		}
		wantSame(t, m, before)
	}
	w := made(t, example()).Save()
	w.Steps = mostSteps - 2
	if events, n, err := loaded(t, w).Run([]api.Turn{{Steps: 1}, {Steps: 2}}); len(events) != 1 || n != 1 || err != api.ErrLimit {
		t.Errorf("up to the limit: %v, %d, %d", events, n, err)
	}
}

// P8.2: threads that are ready, and those whose wait can end, can go on.
func TestCan(t *testing.T) {
	w := valid(t)
	for _, c := range []struct {
		change func()
		want   []int
	}{
		{func() {}, []int{0}},
		{func() { w.Threads[1].W = 3 }, []int{0, 1}},
		{func() { w.Threads[2].W = 78 }, []int{0, 1, 2}},
		{func() { w.Threads[2].W = 5 }, []int{0, 1}},
		{func() { w.Threads[0] = api.Thread{Status: api.ThLock, W: 99} }, []int{0, 1}},
		{func() { w.Threads[0].W = 77 }, []int{1}},
		{func() { w.Threads[1].W = 2 }, nil},
		{func() { w.Threads[0] = api.Thread{Status: api.ThReady}; w.Threads[1].W = 3 }, []int{0, 1}},
		{func() { w.Ended = true }, nil},
	} {
		c.change()
		if got := loaded(t, w).Can(); !slices.Equal(got, c.want) {
			t.Errorf("Can of %v: %v, want %v", brief(w), got, c.want)
		}
	}
	w = valid(t)
	w.Threads[2].W, w.Locks = 1000, nil
	for i := range 64 {
		w.Locks = append(w.Locks, api.Lock{At: uint32(i)})
	}
	if got := loaded(t, w).Can(); !slices.Equal(got, []int{0}) {
		t.Errorf("64 mutexes are had: %v", got)
	}
	w.Locks = w.Locks[1:]
	if got := loaded(t, w).Can(); !slices.Equal(got, []int{0, 2}) {
		t.Errorf("63 mutexes are had: %v", got)
	}
}

// handling is the program of the examples, whose signals are all handled at 4096.
func handling(t *testing.T) api.World {
	t.Helper()
	w := made(t, example()).Save()
	for i := range 7 {
		w.Actions[i] = 4096
	}
	return w
}

// P8.2: the bytes of the frame of a handler, and what the handler begins with.
func TestFrame(t *testing.T) {
	w := handling(t)
	w.Threads[0].Mask = 64
	c := &w.Threads[0].CPU
	for i := range 15 {
		c.R[i] = 0x01020304 * uint32(i+1)
	}
	c.F = 9
	for i := range 32 {
		c.V[i/4][i%4] = 0xa0b0c0d0 + uint32(i)
	}
	var want []byte
	for _, r := range c.R {
		want = binary.LittleEndian.AppendUint32(want, r)
	}
	want = append(want, 0, 16, 0, 0, 9, 0, 0, 0, 64, 0, 0, 0)
	for i := range 32 {
		want = binary.LittleEndian.AppendUint32(want, 0xa0b0c0d0+uint32(i))
	}
	w.Actions[1] = 5555
	m := loaded(t, w)
	events, err := m.Trap(0, api.Trap{Kind: api.TrIll, Addr: 77})
	if err != api.OK {
		t.Fatalf("Trap: %d", err)
	}
	wantEvents(t, events, api.Event{Kind: api.EvStore, PC: 4096, A: 8244, N: 204}, api.Event{Kind: api.EvSignal, PC: 4096, A: 5555, N: 2})
	if b, _, _ := m.Mem().Peek(8244, 204); !slices.Equal(b, want) {
		t.Errorf("the frame is %v, want %v", b, want)
	}
	after := copied(w)
	after.Threads[0].Mask = 66
	c = &after.Threads[0].CPU
	c.R[1], c.R[2], c.R[15], c.PC = 2, 4096, 8244, 5555
	copy(after.Pages[1].B[52:], want)
	after.Steps = 1
	wantSame(t, m, after)
}

// P8.2, P8.3: which signal follows a trap, and with which address.
func TestRaised(t *testing.T) {
	for kind, want := range map[int][2]uint32{
		api.TrSegv:  {api.SigSegv, 1234},
		api.TrAlign: {api.SigSegv, 1234},
		api.TrIll:   {api.SigIll, 4096},
		api.TrDiv:   {api.SigDiv, 4096},
		api.TrBreak: {api.SigBreak, 4096},
	} {
		w := handling(t)
		m := loaded(t, w)
		if _, err := m.Trap(0, api.Trap{Kind: kind, Addr: 1234}); err != api.OK {
			t.Fatalf("Trap: %d", err)
		}
		if c, _ := m.CPU(0); [2]uint32{c.R[1], c.R[2]} != want || m.Save().Steps != 1 {
			t.Errorf("trap %d: %v, %d steps", kind, c, m.Save().Steps)
		}
		w.Threads[0].Mask = 1 << (want[0] - 1)
		wantEndBy(t, w, kind, int(want[0]))
		w.Threads[0].Mask = 127 - w.Threads[0].Mask
		w.Actions[want[0]-1] = 0
		wantEndBy(t, w, kind, int(want[0]))
		w = handling(t)
		w.Threads[0].CPU.R[15] = 8192 + 203
		wantEndBy(t, w, kind, api.SigSegv)
		w.Threads[0].CPU.R[15] = 8192 + 204
		if _, err := loaded(t, w).Trap(0, api.Trap{Kind: kind}); err != api.OK {
			t.Errorf("at the first address of the page: %d", err)
		}
	}
}

// wantEndBy holds that the run ends by a signal when thread 0 traps, and that nothing else changes.
func wantEndBy(t *testing.T, w api.World, kind, sig int) {
	t.Helper()
	m := loaded(t, w)
	events, err := m.Trap(0, api.Trap{Kind: kind})
	if err != api.OK {
		t.Fatalf("Trap: %d", err)
	}
	wantEvents(t, events, api.Event{Kind: api.EvSignal, PC: 4096, N: sig}, api.Event{Kind: api.EvEnd, PC: 4096, A: uint32(sig)})
	w.Ended, w.Sig, w.Steps = true, sig, 1
	wantSame(t, m, w)
}

// P8.2: signals are delivered in their order, but for those that are blocked, ahead of a step.
func TestOrderOfSignals(t *testing.T) {
	w := handling(t)
	w.Threads[0].CPU.R[15] = 8448
	w.Pages = slices.Insert(w.Pages, 1, page(30, 3), page(31, 3))
	w.Threads[0].Sent = []int{3, 6, 3, 5}
	w.Threads[0].Mask = 32
	m := loaded(t, w)
	events, n := done(t, m, api.Turn{})
	if len(events) > 0 || n != 0 {
		t.Errorf("a turn of no steps: %v, %d", events, n)
	}
	events, _ = done(t, m, api.Turn{Steps: 1, Sig: 7})
	var got []int
	for _, e := range events {
		if e.Kind == api.EvSignal {
			got = append(got, e.N)
		}
	}
	// Signal 3 blocks itself.
	if th := m.Save().Threads[0]; !slices.Equal(got, []int{3, 5, 7}) || !slices.Equal(th.Sent, []int{6, 3}) || th.Mask != 32+4+16+64 {
		t.Errorf("signals %v, left %v, mask %d", got, th.Sent, th.Mask)
	}
	if _, is, err := m.Deliver(0); is || err != api.OK {
		t.Errorf("all are blocked: %v, %d", is, err)
	}
	m.Send(0, api.SigKill)
	before := m.Save()
	events, is, err := m.Deliver(0)
	if !is || err != api.OK {
		t.Errorf("SigKill: %v, %d", is, err)
	}
	pc := before.Threads[0].CPU.PC
	wantEvents(t, events, api.Event{Kind: api.EvSignal, PC: pc, N: 8}, api.Event{Kind: api.EvEnd, PC: pc, A: 8})
	before.Threads[0].Sent = []int{6, 3}
	before.Ended, before.Sig = true, 8
	wantSame(t, m, before)
}

// P8.2: a signal that comes behind the last step of a turn, by the thread itself, is delivered in a later one.
func TestSignalBehindLastStep(t *testing.T) {
	s := setup(calling(api.SysKill, 0, 5)...)
	w := made(t, s).Save()
	w.Actions[4] = 4096
	m := loaded(t, w)
	events, n := done(t, m, api.Turn{Steps: 4})
	if n != 4 || events[len(events)-1] != (api.Event{Kind: api.EvSys, PC: 4124, A: 14}) {
		t.Errorf("%d steps: %v", n, events)
	}
	if l := m.Save().Threads[0].Sent; !slices.Equal(l, []int{5}) {
		t.Errorf("sent: %v", l)
	}
	events, _ = done(t, m, api.Turn{Steps: 1})
	if len(events) != 3 || events[1].Kind != api.EvSignal || events[2].PC != 4096 {
		t.Errorf("then: %v", events)
	}
}

// P8.2, P8.3: which signals are not sent, and that this is no error.
func TestNotSent(t *testing.T) {
	w := valid(t)
	w.Threads[2].Sent = slices.Repeat([]int{5}, 63)
	m := loaded(t, w)
	for _, sig := range []int{6, 7} {
		if err := m.Send(2, sig); err != api.OK {
			t.Errorf("Send: %d", err)
		}
		done(t, m, api.Turn{Thread: 2, Sig: sig})
		done(t, m, api.Turn{Thread: 3, Sig: sig})
		if err := m.Send(3, sig); err != api.OK {
			t.Errorf("Send: %d", err)
		}
	}
	w.Threads[2].Sent = append(w.Threads[2].Sent, 6)
	wantSame(t, m, w)
}

// P8.3: the errors of the pieces, in their order, change nothing.
func TestPieceErrors(t *testing.T) {
	w := valid(t)
	w.Steps = mostSteps
	f16 := api.CPU{F: 16}
	for _, c := range []struct {
		name  string
		do    func(m *kern.Machine) api.Errno
		want  api.Errno
		isNot bool // an error also behind the end
	}{
		{"Wake 4", func(m *kern.Machine) api.Errno { _, _, err := m.Wake(4); return err }, api.ErrArg, false},
		{"Deliver -1", func(m *kern.Machine) api.Errno { _, _, err := m.Deliver(-1); return err }, api.ErrArg, false},
		{"Trap 4", func(m *kern.Machine) api.Errno { _, err := m.Trap(4, api.Trap{Kind: api.TrSys}); return err }, api.ErrArg, false},
		{"Trap of kind 8", func(m *kern.Machine) api.Errno { _, err := m.Trap(1, api.Trap{Kind: 8}); return err }, api.ErrArg, false},
		{"Trap of kind -1", func(m *kern.Machine) api.Errno { _, err := m.Trap(0, api.Trap{Kind: -1}); return err }, api.ErrArg, false},
		{"Trap of a thread that waits", func(m *kern.Machine) api.Errno { _, err := m.Trap(1, api.Trap{Kind: api.TrDiv}); return err }, api.ErrState, false},
		{"Trap of a thread that is done", func(m *kern.Machine) api.Errno { _, err := m.Trap(3, api.Trap{}); return err }, api.ErrState, false},
		{"Trap, one step too many", func(m *kern.Machine) api.Errno { _, err := m.Trap(0, api.Trap{Kind: api.TrBreak}); return err }, api.ErrLimit, false},
		{"no trap", func(m *kern.Machine) api.Errno { _, err := m.Trap(0, api.Trap{Addr: 5}); return err }, api.OK, false},
		{"Send 4", func(m *kern.Machine) api.Errno { return m.Send(4, 1) }, api.ErrArg, false},
		{"Send of 0", func(m *kern.Machine) api.Errno { return m.Send(0, 0) }, api.ErrArg, false},
		{"Send of 9", func(m *kern.Machine) api.Errno { return m.Send(3, 9) }, api.ErrArg, false},
		{"CPU 4", func(m *kern.Machine) api.Errno { _, err := m.CPU(4); return err }, api.ErrArg, true},
		{"CPU -1", func(m *kern.Machine) api.Errno { _, err := m.CPU(-1); return err }, api.ErrArg, true},
		{"CPU 3", func(m *kern.Machine) api.Errno { _, err := m.CPU(3); return err }, api.OK, true},
		{"Put 4", func(m *kern.Machine) api.Errno { return m.Put(4, api.CPU{}, 0) }, api.ErrArg, false},
		{"Put to a thread that waits", func(m *kern.Machine) api.Errno { return m.Put(2, f16, 0) }, api.ErrState, false},
		{"Put to a thread that is done", func(m *kern.Machine) api.Errno { return m.Put(3, api.CPU{}, -1) }, api.ErrState, false},
		{"Put of flags 16", func(m *kern.Machine) api.Errno { return m.Put(0, f16, 1) }, api.ErrArg, false},
		{"Put of -1 steps", func(m *kern.Machine) api.Errno { return m.Put(0, api.CPU{}, -1) }, api.ErrArg, false},
		{"Put of 200001 steps", func(m *kern.Machine) api.Errno { return m.Put(0, api.CPU{}, 200001) }, api.ErrArg, false},
		{"Put, one step too many", func(m *kern.Machine) api.Errno { return m.Put(0, api.CPU{}, 1) }, api.ErrLimit, false},
	} {
		m := loaded(t, w)
		if err := c.do(m); err != c.want {
			t.Errorf("%s: %d, want %d", c.name, err, c.want)
		}
		wantSame(t, m, w)
		ended := copied(w)
		ended.Ended = true
		m = loaded(t, ended)
		want := api.ErrState
		if c.isNot {
			want = c.want
		}
		if err := c.do(m); err != want {
			t.Errorf("%s, behind the end: %d, want %d", c.name, err, want)
		}
		wantSame(t, m, ended)
	}
}

// P8.3: Put sets all registers, and adds steps.
func TestPut(t *testing.T) {
	w := valid(t)
	w.Steps = mostSteps - 200000
	m := loaded(t, w)
	c := api.CPU{R: [16]uint32{7, 15: 9}, PC: 3, F: 15}
	c.V[7][3] = 5
	if err := m.Put(0, c, 200000); err != api.OK {
		t.Fatalf("Put: %d", err)
	}
	w.Threads[0].CPU, w.Steps = c, mostSteps
	wantSame(t, m, w)
}

// P8.3: which waits end, and how.
func TestWake(t *testing.T) {
	w := valid(t)
	w.Threads[1].W, w.Threads[1].CPU.PC, w.Threads[1].CPU.R[0] = 3, 44, 8
	w.Threads[2].W, w.Threads[2].CPU.PC = 40, 48
	m := loaded(t, w)
	for _, c := range []struct {
		thread  int
		isReady bool
		events  []api.Event
	}{
		{0, true, nil},
		{1, true, []api.Event{{Kind: api.EvJoin, Thread: 1, PC: 44, N: 3}, {Kind: api.EvSys, Thread: 1, PC: 44, A: 8}}},
		{1, true, nil},
		{2, true, []api.Event{{Kind: api.EvLock, Thread: 2, PC: 48, A: 40}, {Kind: api.EvSys, Thread: 2, PC: 48, A: 10}}},
		{3, false, nil},
	} {
		events, isReady, err := m.Wake(c.thread)
		if isReady != c.isReady || err != api.OK {
			t.Errorf("Wake(%d): %v, %d", c.thread, isReady, err)
		}
		wantEvents(t, events, c.events...)
	}
	w.Threads[1].Status, w.Threads[1].W, w.Threads[1].CPU.R[0] = api.ThReady, 0, 0
	w.Threads[2].Status, w.Threads[2].W = api.ThReady, 0
	w.Locks = slices.Insert(w.Locks, 1, api.Lock{At: 40, Owner: 2})
	wantSame(t, m, w)
	m = loaded(t, valid(t))
	for _, thread := range []int{1, 2} {
		if events, isReady, err := m.Wake(thread); len(events) > 0 || isReady || err != api.OK {
			t.Errorf("Wake(%d), which waits on: %v, %v, %d", thread, events, isReady, err)
		}
	}
	wantSame(t, m, valid(t))
}
