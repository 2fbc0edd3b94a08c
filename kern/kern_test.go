package kern_test

import (
	"math"
	"slices"
	"testing"

	"candling/api"
	"candling/heap"
	"candling/kern"
	"candling/mem"
)

// P8.1: the machine that a run begins with.
func TestNew(t *testing.T) {
	s := example()
	s.In = []byte{1, 2, 3}
	m := made(t, s)
	first := api.Thread{Status: api.ThReady}
	first.CPU.PC, first.CPU.R[15] = 4096, 8448
	want := api.World{
		Threads: []api.Thread{first},
		Pages:   append(s.Pages, page(64, 3), page(65, 3), page(66, 3), page(67, 3)),
		Heap:    api.Heap{Conf: s.Heap},
		In:      []byte{1, 2, 3},
	}
	wantSame(t, m, want)
	if m.Ended() || !slices.Equal(m.Can(), []int{0}) {
		t.Errorf("Ended: %v, Can: %v", m.Ended(), m.Can())
	}
	if l := m.Mem().Changed(); len(l) > 0 {
		t.Errorf("pages that have changed: %v", l)
	}
	s.Heap = api.HeapConf{Page: 3}
	if l := made(t, s).Save().Pages; len(l) != 2 {
		t.Errorf("%d pages", len(l))
	}
}

// P8.1: what New does not accept, and what is just within the limits.
func TestNewErrors(t *testing.T) {
	many := func(n int) []api.Page {
		var l []api.Page
		for i := range n {
			l = append(l, page(1000+i, 3))
		}
		return l
	}
	for _, c := range []struct {
		name   string
		change func(s *api.Setup)
		want   api.Errno
	}{
		{"as it is", func(s *api.Setup) {}, api.OK},
		{"nothing", func(s *api.Setup) { *s = api.Setup{Heap: api.HeapConf{Page: 1}} }, api.OK},
		{"pages out of order", func(s *api.Setup) { slices.Reverse(s.Pages) }, api.ErrForm},
		{"pages, and all else", func(s *api.Setup) { s.Pages[0].Rights, s.Heap.N, s.In = 8, -1, make([]byte, 70000) }, api.ErrForm},
		{"too many pages, and no heap", func(s *api.Setup) { s.Pages, s.Heap = many(2001), api.HeapConf{} }, api.ErrLimit},
		{"no heap", func(s *api.Setup) { s.Heap = api.HeapConf{} }, api.ErrArg},
		{"a heap that is not valid, and too many pages then", func(s *api.Setup) { s.Pages, s.Heap.Red = many(2000), -1 }, api.ErrArg},
		{"the first page of the heap", func(s *api.Setup) { s.Pages[1].N = 64 }, api.ErrArg},
		{"the last page of the heap", func(s *api.Setup) { s.Pages[1].N = 67 }, api.ErrArg},
		{"the page ahead of the heap", func(s *api.Setup) { s.Pages[1].N = 63 }, api.OK},
		{"the page behind the heap", func(s *api.Setup) { s.Pages[1].N = 68 }, api.OK},
		{"where a heap without pages is", func(s *api.Setup) { s.Pages[1].N, s.Heap.N = 64, 0 }, api.OK},
		{"65536 bytes of input", func(s *api.Setup) { s.In = make([]byte, 65536) }, api.OK},
		{"65537 bytes of input", func(s *api.Setup) { s.In = make([]byte, 65537) }, api.ErrArg},
		{"2000 pages", func(s *api.Setup) { s.Pages = many(1996) }, api.OK},
		{"2001 pages", func(s *api.Setup) { s.Pages = many(1997) }, api.ErrLimit},
		{"2001 pages, and too much input", func(s *api.Setup) { s.Pages, s.In = many(1997), make([]byte, 65537) }, api.ErrArg},
		{"2000 pages, the heap without any", func(s *api.Setup) { s.Pages, s.Heap.N = many(2000), 0 }, api.OK},
	} {
		s := example()
		c.change(&s)
		m, err := kern.New(s)
		if err != c.want || (m == nil) != (err != api.OK) {
			t.Errorf("%s: %v, %d, want %d", c.name, m, err, c.want)
		}
	}
}

// valid is a world with something of everything.
func valid(t *testing.T) api.World {
	t.Helper()
	w := made(t, example()).Save()
	h, _, err := heap.Alloc(w.Heap, 10)
	if err != api.OK {
		t.Fatalf("Alloc: %d", err)
	}
	w.Heap = h
	w.Threads = append(w.Threads, api.Thread{Status: api.ThJoin, W: 2, Mask: 127}, api.Thread{Status: api.ThLock, W: 77, Sent: []int{1, 8}}, api.Thread{Status: api.ThDone})
	w.Locks = []api.Lock{{At: 5, Owner: 2}, {At: 77, Owner: 0}}
	w.In, w.InAt, w.Out = []byte{1, 2}, 1, []byte{3}
	w.Actions = [8]uint32{4096, 0, 4100}
	w.Steps = 9
	return w
}

// P8.1: valid worlds at the edges of what is valid, and others just beyond them.
func TestCheck(t *testing.T) {
	locks := func(n int) []api.Lock {
		var l []api.Lock
		for i := range n {
			l = append(l, api.Lock{At: uint32(i)})
		}
		return l
	}
	for _, c := range []struct {
		name   string
		change func(w *api.World)
		isOne  bool
	}{
		{"as it is", func(w *api.World) {}, true},
		{"the zero world", func(w *api.World) { *w = api.World{} }, false},
		{"no threads", func(w *api.World) { w.Threads, w.Locks = nil, nil }, false},
		{"no threads, ended", func(w *api.World) { w.Threads, w.Locks, w.Ended = nil, nil, true }, false},
		{"8 threads", func(w *api.World) { w.Threads = append(w.Threads, w.Threads...) }, true},
		{"9 threads", func(w *api.World) { w.Threads = append(append(w.Threads, w.Threads...), w.Threads[0]) }, false},
		{"status 0", func(w *api.World) { w.Threads[0].Status = 0 }, false},
		{"status 5", func(w *api.World) { w.Threads[0].Status = 5 }, false},
		{"flags 15", func(w *api.World) { w.Threads[0].CPU.F = 15 }, true},
		{"flags 16", func(w *api.World) { w.Threads[0].CPU.F = 16 }, false},
		{"flags negative", func(w *api.World) { w.Threads[3].CPU.F = -1 }, false},
		{"mask 128", func(w *api.World) { w.Threads[1].Mask = 128 }, false},
		{"mask negative", func(w *api.World) { w.Threads[1].Mask = math.MinInt }, false},
		{"64 signals", func(w *api.World) { w.Threads[2].Sent = slices.Repeat([]int{3}, 64) }, true},
		{"65 signals", func(w *api.World) { w.Threads[2].Sent = slices.Repeat([]int{3}, 65) }, false},
		{"signal 0", func(w *api.World) { w.Threads[2].Sent[0] = 0 }, false},
		{"signal 9", func(w *api.World) { w.Threads[2].Sent[1] = 9 }, false},
		{"a thread that is done, with signals", func(w *api.World) { w.Threads[3].Sent = []int{4} }, true},
		{"ready, with W", func(w *api.World) { w.Threads[0].W = 1 }, false},
		{"done, with W", func(w *api.World) { w.Threads[3].W = 1 }, false},
		{"waits for itself", func(w *api.World) { w.Threads[1].W = 1 }, false},
		{"waits for the last thread", func(w *api.World) { w.Threads[1].W = 3 }, true},
		{"waits for no thread", func(w *api.World) { w.Threads[1].W = 4 }, false},
		{"waits for no thread at all", func(w *api.World) { w.Threads[1].W = math.MaxUint32 }, false},
		{"waits for any mutex", func(w *api.World) { w.Threads[2].W = math.MaxUint32 }, true},
		{"waits for its own mutex", func(w *api.World) { w.Threads[2].W = 5 }, true},
		{"pages out of order", func(w *api.World) { slices.Reverse(w.Pages) }, false},
		{"a page too short", func(w *api.World) { w.Pages[0].B = w.Pages[0].B[:255] }, false},
		{"no code", func(w *api.World) { w.Pages = w.Pages[1:] }, true},
		{"a page of the heap missing", func(w *api.World) { w.Pages = w.Pages[:5] }, false},
		{"a page of the heap with other rights", func(w *api.World) { w.Pages[3].Rights = 7 }, false},
		{"a page of the heap that cannot be written to", func(w *api.World) { w.Pages[2].Rights = 1 }, false},
		{"a heap without pages", func(w *api.World) { w.Heap, w.Pages = api.Heap{Conf: api.HeapConf{Page: 1}}, w.Pages[:2] }, true},
		{"no heap", func(w *api.World) { w.Heap = api.Heap{} }, false},
		{"a block twice", func(w *api.World) { w.Heap.Live = append(w.Heap.Live, w.Heap.Live...) }, false},
		{"locks out of order", func(w *api.World) { slices.Reverse(w.Locks) }, false},
		{"a lock twice", func(w *api.World) { w.Locks[0].At = 77 }, false},
		{"64 locks", func(w *api.World) { w.Locks = locks(64) }, true},
		{"65 locks", func(w *api.World) { w.Locks = locks(65) }, false},
		{"the owner done", func(w *api.World) { w.Locks[1].Owner = 3 }, false},
		{"the owner no thread", func(w *api.World) { w.Locks[1].Owner = 4 }, false},
		{"the owner negative", func(w *api.World) { w.Locks[1].Owner = -1 }, false},
		{"SigKill handled", func(w *api.World) { w.Actions[7] = 4096 }, false},
		{"SigAlarm handled", func(w *api.World) { w.Actions[6] = 1 }, true},
		{"65536 bytes of input", func(w *api.World) { w.In = make([]byte, 65536) }, true},
		{"65537 bytes of input", func(w *api.World) { w.In = make([]byte, 65537) }, false},
		{"65536 bytes of output", func(w *api.World) { w.Out = make([]byte, 65536) }, true},
		{"65537 bytes of output", func(w *api.World) { w.Out = make([]byte, 65537) }, false},
		{"all input read", func(w *api.World) { w.InAt = 2 }, true},
		{"more than all input read", func(w *api.World) { w.InAt = 3 }, false},
		{"less than none read", func(w *api.World) { w.InAt = -1 }, false},
		{"steps negative", func(w *api.World) { w.Steps = -1 }, false},
		{"10^9 steps", func(w *api.World) { w.Steps = mostSteps }, true},
		{"more steps", func(w *api.World) { w.Steps = mostSteps + 1 }, false},
		{"a code", func(w *api.World) { w.Code = 1 }, false},
		{"a code, ended", func(w *api.World) { w.Code, w.Ended = 1, true }, true},
		{"a signal", func(w *api.World) { w.Sig = 1 }, false},
		{"signal 8, ended", func(w *api.World) { w.Sig, w.Ended = 8, true }, true},
		{"signal 9, ended", func(w *api.World) { w.Sig, w.Ended = 9, true }, false},
		{"signal negative, ended", func(w *api.World) { w.Sig, w.Ended = -1, true }, false},
		{"all done", func(w *api.World) { w.Threads, w.Locks = w.Threads[3:], nil }, false},
		{"all done, ended", func(w *api.World) { w.Threads, w.Locks, w.Ended = w.Threads[3:], nil, true }, true},
		{"all wait", func(w *api.World) { w.Threads[0] = api.Thread{Status: api.ThLock, W: 77} }, true},
	} {
		w := valid(t)
		c.change(&w)
		want := api.ErrWorld
		if c.isOne {
			want = api.OK
		}
		if err := kern.Check(w); err != want {
			t.Errorf("%s: Check: %d, want %d", c.name, err, want)
		}
		m, err := kern.Load(w)
		if err != want || (m == nil) != (err != api.OK) {
			t.Errorf("%s: Load: %v, %d, want %d", c.name, m, err, want)
		}
		if c.isOne {
			wantSame(t, m, w)
		}
	}
}

// P8.1: what makes worlds, also those that are not valid, the same.
func TestSame(t *testing.T) {
	for i, change := range []func(w *api.World){
		func(w *api.World) { w.Threads = w.Threads[:3] },
		func(w *api.World) { w.Threads[0].CPU.R[3]++ },
		func(w *api.World) { w.Threads[0].CPU.PC++ },
		func(w *api.World) { w.Threads[1].CPU.F++ },
		func(w *api.World) { w.Threads[1].CPU.V[7][3]++ },
		func(w *api.World) { w.Threads[2].Status = 1 },
		func(w *api.World) { w.Threads[2].W++ },
		func(w *api.World) { w.Threads[2].Mask++ },
		func(w *api.World) { w.Threads[2].Sent[1]-- },
		func(w *api.World) { w.Threads[3].Sent = []int{0} },
		func(w *api.World) { w.Pages = w.Pages[:5] },
		func(w *api.World) { w.Pages[0].N = -1 },
		func(w *api.World) { w.Pages[0].Rights++ },
		func(w *api.World) { w.Pages[5].B[255]++ },
		func(w *api.World) { w.Heap.Conf.Red++ },
		func(w *api.World) { w.Heap.Live[0].Size++ },
		func(w *api.World) { w.Heap.Quar = []api.Piece{{}} },
		func(w *api.World) { w.Heap.Given++ },
		func(w *api.World) { w.Locks[1].At++ },
		func(w *api.World) { w.Locks[1].Owner++ },
		func(w *api.World) { w.Locks = nil },
		func(w *api.World) { w.Actions[7]++ },
		func(w *api.World) { w.In[0]++ },
		func(w *api.World) { w.InAt++ },
		func(w *api.World) { w.Out = append(w.Out, 0) },
		func(w *api.World) { w.Steps++ },
		func(w *api.World) { w.Ended = true },
		func(w *api.World) { w.Code++ },
		func(w *api.World) { w.Sig++ },
	} {
		a, b := valid(t), valid(t)
		if !kern.Same(a, b) {
			t.Fatal("a world is not the same as itself")
		}
		change(&b)
		if kern.Same(a, b) || kern.Same(b, a) || !kern.Same(b, copied(b)) {
			t.Errorf("change %d makes no difference, or one to itself", i)
		}
	}
	empty := api.World{Threads: []api.Thread{}, Pages: []api.Page{}, Locks: []api.Lock{}, In: []byte{}, Out: []byte{}}
	empty.Heap.Live, empty.Heap.Quar = []api.Piece{}, []api.Piece{}
	if !kern.Same(api.World{}, empty) {
		t.Error("empty lists are not nil ones")
	}
	a, b := api.World{Threads: make([]api.Thread, 1), Pages: make([]api.Page, 1)}, api.World{Threads: make([]api.Thread, 1), Pages: make([]api.Page, 1)}
	b.Threads[0].Sent, b.Pages[0].B = []int{}, []byte{}
	if !kern.Same(a, b) {
		t.Error("empty lists inside are not nil ones")
	}
}

// P8.1: machines share no memory with what they are made of, nor with what they return.
func TestNothingIsShared(t *testing.T) {
	spoil := func(w api.World) {
		w.Threads[2].Sent[0], w.Pages[0].B[0], w.Pages[5].B[0] = 7, 99, 99
		w.Heap.Live[0].Size, w.Locks[0].At, w.In[0], w.Out[0] = 0, 0, 99, 99
		w.Threads[0].CPU.PC, w.Pages[1].Rights = 0, 0
	}
	w, want := valid(t), valid(t)
	m := loaded(t, w)
	spoil(w)
	wantSame(t, m, want)
	saved := m.Save()
	spoil(saved)
	wantSame(t, m, want)
	s := example()
	s.In = []byte{1}
	m = made(t, s)
	want = m.Save()
	s.In[0], s.Pages[0].B[0] = 9, 9
	wantSame(t, m, want)
}

// P8.1 to P8.3: machines that are nil, or that nothing has made.
func TestNoMachine(t *testing.T) {
	for _, m := range []*kern.Machine{nil, {}} {
		if !kern.Same(m.Save(), api.World{}) || m.Clone() != nil || m.Can() != nil || m.Mem() != nil || !m.Ended() {
			t.Error("there is no machine, but something of it")
		}
		for _, thread := range []int{0, -1} {
			errs := map[string]api.Errno{}
			var n [7]int
			var is [2]bool
			var c api.CPU
			var l [5][]api.Event
			l[0], n[0], errs["Do"] = m.Do(api.Turn{Thread: thread, Steps: thread})
			l[1], n[1], errs["Run"] = m.Run(nil)
			l[2], is[0], errs["Wake"] = m.Wake(thread)
			l[3], is[1], errs["Deliver"] = m.Deliver(thread)
			l[4], errs["Trap"] = m.Trap(thread, api.Trap{Kind: thread})
			errs["Send"] = m.Send(thread, 1)
			c, errs["CPU"] = m.CPU(thread)
			errs["Put"] = m.Put(thread, api.CPU{}, 0)
			for name, err := range errs {
				if err != api.ErrState {
					t.Errorf("%s: %d", name, err)
				}
			}
			if n != [7]int{} || is != [2]bool{} || c != (api.CPU{}) || len(slices.Concat(l[:]...)) > 0 {
				t.Error("an error, but also something else")
			}
		}
	}
}

// P8.3: the memory is that of the machine.
func TestMem(t *testing.T) {
	m := made(t, example())
	before, _ := mem.Load(m.Save().Pages)
	if !mem.Same(m.Mem(), before) {
		t.Error("another memory")
	}
	if _, ok := m.Mem().Write(8192, []byte{5}); !ok {
		t.Fatal("Write")
	}
	if b := m.Save().Pages[1].B[0]; b != 5 {
		t.Errorf("the byte is %d", b)
	}
	done(t, m, api.Turn{Steps: 6})
	if !m.Ended() || m.Mem() == nil {
		t.Error("no memory behind the end")
	}
}
