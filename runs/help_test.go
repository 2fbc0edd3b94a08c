package runs_test

import (
	"bytes"
	"fmt"
	"math/rand/v2"
	"slices"
	"strings"
	"testing"

	"candling/api"
	"candling/asm"
	"candling/kern"
	"candling/link"
	"candling/runs"
)

func random(seed uint64) *rand.Rand { return rand.New(rand.NewPCG(seed, 9)) }

func pick[T any](r *rand.Rand, l ...T) T { return l[r.IntN(len(l))] }

// isOneIn is true once in n times.
func isOneIn(r *rand.Rand, n int) bool { return r.IntN(n) == 0 }

func page(n, rights int, b ...byte) api.Page {
	return api.Page{N: n, Rights: rights, B: append(slices.Clone(b), make([]byte, 256-len(b))...)}
}

// calling is the instructions of a system call, whose arguments may be names.
func calling(number int, arguments ...any) string {
	var b strings.Builder
	fmt.Fprintf(&b, "set r0, %d\n", number)
	for i, x := range arguments {
		fmt.Fprintf(&b, "set r%d, %v\n", i+1, x)
	}
	return b.String() + "sys\n"
}

// stacks is the first page of those with data and the stacks of threads.
const stacks = 32

// assembled is a program whose first instruction is the entry; the stack of thread n ends at 9216 + 1024 n, and the heap has four pages.
func assembled(t *testing.T, source string) api.Setup {
	t.Helper()
	o, line, err := asm.Assemble(".section text, rwx\n.global main\nmain:\n"+source, "test.s")
	if err != api.OK {
		t.Fatalf("line %d: %d", line, err)
	}
	image, name, err := link.Link([]api.Object{o}, nil, api.LinkConf{Base: 4096, Entry: "main"})
	if err != api.OK {
		t.Fatalf("Link: %s: %d", name, err)
	}
	pages, err := link.Pages(image)
	if err != api.OK {
		t.Fatalf("Pages: %d", err)
	}
	for i := range 20 {
		pages = append(pages, page(stacks+i, 3))
	}
	return api.Setup{Pages: pages, Entry: image.Entry, SP: 9216, Heap: api.HeapConf{Page: 64, N: 4, Red: 8}}
}

// example is the program of the chapter's examples, which makes 6 steps.
func example(t *testing.T) api.Setup {
	t.Helper()
	return assembled(t, calling(api.SysAlloc, 10)+calling(api.SysExit, 7))
}

// workers is a program with three further threads, which count, read and write under a mutex; thread 0 waits for them. Behind main it allocates and frees.
func workers(t *testing.T) api.Setup {
	t.Helper()
	s := assembled(t,
		calling(api.SysSpawn, "work", 10240, 1)+
			calling(api.SysSpawn, "work", 11264, 2)+
			calling(api.SysLock, 7)+
			calling(api.SysSpawn, "work", 12288, 3)+
			calling(api.SysUnlock, 7)+
			calling(api.SysJoin, 2)+
			calling(api.SysAlloc, 20)+
			"mov r1, r0\nset r0, 17\nsys\n"+
			calling(api.SysJoin, 3)+
			calling(api.SysWrite, "count", 4)+
			calling(api.SysExit, 3)+
			"work:\nset r9, 2\n"+
			"again:\n"+calling(api.SysLock, 7)+
			"set r5, count\nload32 r6, [r5]\naddk r6, r6, 1\nstore32 r6, [r5]\n"+
			calling(api.SysRead, "count + 4", 2)+
			calling(api.SysWrite, "count", 5)+
			calling(api.SysUnlock, 7)+
			calling(api.SysYield)+
			"addk r9, r9, -1\njcc ne, again\n"+
			calling(api.SysLeave)+
			".align 4\ncount:\n.word 0, 0\n")
	s.In = []byte("some input")
	return s
}

// signals is a program that handles signals 3 to 6, sends itself some, and divides by zero; it goes on for ever unless it is ended by a signal.
func signals(t *testing.T) api.Setup {
	t.Helper()
	source := calling(api.SysAction, api.SigDiv, "handler") +
		calling(api.SysAction, api.SigBreak, "handler") +
		calling(api.SysAction, api.SigUser, "handler") +
		calling(api.SysAction, api.SigOther, "handler") +
		calling(api.SysSpawn, "other", 10240, 0) +
		"again:\n" + calling(api.SysKill, 0, api.SigUser) +
		calling(api.SysMask, 1<<(api.SigOther-1)) +
		"set r10, 0\ndiv r1, r1, r10\n" +
		calling(api.SysMask, 0) +
		calling(api.SysKill, 1, api.SigOther) +
		calling(api.SysWrite, 9000, 1) +
		"req\njmp again\n" +
		"other:\nbrk\nnop\njmp other\n" +
		// Behind a trap the program goes on behind the four bytes of the instruction.
		"handler:\ncmpk r1, 4\njcc a, back\nload32 r3, [sp + 64]\naddk r3, r3, 4\nstore32 r3, [sp + 64]\n" +
		"back:\n" + calling(api.SysReturn)
	return assembled(t, source)
}

// leavers is a program with two threads that leave; the second one waits for a mutex of the first one, which has waited for input that never came.
func leavers(t *testing.T) api.Setup {
	t.Helper()
	return assembled(t,
		calling(api.SysLock, 1)+
			calling(api.SysSpawn, "other", 10240, 0)+
			calling(api.SysRead, 9000, 8)+
			calling(api.SysYield)+
			calling(api.SysLeave)+
			"other:\n"+calling(api.SysLock, 1)+
			calling(api.SysJoin, 0)+
			calling(api.SysLeave))
}

// trapping is a program that ends by a trap that is not handled.
func trapping(t *testing.T, last string) api.Setup {
	t.Helper()
	return assembled(t, "nop\n"+calling(api.SysWrite, "main", 3)+"set r1, 0\n"+last+"\nnop\n")
}

// randomSetup is one of the programs.
func randomSetup(t *testing.T, r *rand.Rand) api.Setup {
	t.Helper()
	switch r.IntN(10) {
	case 0:
		return example(t)
	case 1:
		return leavers(t)
	case 2:
		return trapping(t, pick(r, "brk", "div r2, r2, r1", "load32 r2, [r1]", "jmp main + 2", ".word 0"))
	case 3, 4, 5:
		return signals(t)
	}
	return workers(t)
}

// randomTurn is a turn of a thread of a machine, seldom of one that is not there.
func randomTurn(r *rand.Rand, m *kern.Machine) api.Turn {
	threads := len(m.Save().Threads)
	t := api.Turn{Thread: r.IntN(threads), Steps: pick(r, 0, 0, 1, r.IntN(6), r.IntN(25), r.IntN(60))}
	if l := m.Can(); len(l) > 0 && !isOneIn(r, 4) {
		t.Thread = pick(r, l...)
	}
	if isOneIn(r, 300) {
		t.Thread = threads
	}
	if isOneIn(r, 10) {
		t.Sig = pick(r, 5, 5, 6, 6, 3, 4, 1+r.IntN(8))
	}
	return t
}

// randomRecord is a run of one of the programs.
func randomRecord(t *testing.T, seed uint64) api.Record {
	t.Helper()
	r := random(seed)
	x := api.Record{Setup: randomSetup(t, r)}
	m, err := kern.New(x.Setup)
	wantOK(t, "New", err)
	most := 1 + r.IntN(60)
	for range most {
		turn := randomTurn(r, m)
		l := []api.Turn{turn}
		if turn.Sig != 0 && isOneIn(r, 10) {
			// So many signals cannot all be sent to a thread that makes no steps.
			l = slices.Repeat([]api.Turn{{Thread: turn.Thread, Sig: turn.Sig}}, 63+r.IntN(4))
		}
		x.Turns = append(x.Turns, l...)
		m.Run(l)
	}
	return x
}

// records calls do with random records.
func records(t *testing.T, n int, do func(seed uint64, r api.Record)) {
	t.Helper()
	for seed := range uint64(n) {
		do(seed, randomRecord(t, seed))
	}
}

// executed is what came of a run.
type executed struct {
	w      api.World
	events []api.Event
	turns  int
	err    api.Errno
}

func run(r api.Record) executed {
	var x executed
	x.w, x.events, x.turns, x.err = runs.Run(r)
	return x
}

func resume(w api.World, l []api.Turn) executed {
	var x executed
	x.w, x.events, x.turns, x.err = runs.Resume(w, l)
	return x
}

// isNothing reports whether all results but the error are zero values.
func (x executed) isNothing() bool {
	return kern.Same(x.w, api.World{}) && len(x.events) == 0 && x.turns == 0
}

// wantSameRun holds that two runs have the same events, and the same world in the end.
func wantSameRun(t *testing.T, seed uint64, got, want executed) {
	t.Helper()
	if !slices.Equal(got.events, want.events) {
		t.Fatalf("seed %d: events: %v, want %v", seed, got.events, want.events)
	}
	wantSameWorld(t, seed, got.w, want.w)
}

func wantSameWorld(t *testing.T, seed uint64, got, want api.World) {
	t.Helper()
	if !kern.Same(got, want) {
		got.Pages, want.Pages = nil, nil
		t.Fatalf("seed %d: the world is %v, want %v (and pages)", seed, got, want)
	}
}

// wantTurns holds that a record has a setup, and these turns.
func wantTurns(t *testing.T, seed uint64, got api.Record, s api.Setup, want ...api.Turn) {
	t.Helper()
	if !sameSetup(got.Setup, s) || !slices.Equal(got.Turns, want) {
		t.Fatalf("seed %d: turns %v, want %v (or another setup)", seed, got.Turns, want)
	}
}

func sameSetup(a, b api.Setup) bool {
	samePages := slices.EqualFunc(a.Pages, b.Pages, func(p, q api.Page) bool {
		return p.N == q.N && p.Rights == q.Rights && bytes.Equal(p.B, q.B)
	})
	return samePages && a.Entry == b.Entry && a.SP == b.SP && a.Heap == b.Heap && bytes.Equal(a.In, b.In)
}

func sameRecord(a, b api.Record) bool {
	return sameSetup(a.Setup, b.Setup) && slices.Equal(a.Turns, b.Turns)
}

// got is what a call with a valid record returns.
func got[T any](t *testing.T, call func(api.Record) (T, api.Errno), r api.Record) T {
	t.Helper()
	x, err := call(r)
	wantOK(t, "a valid record", err)
	return x
}

func tight(t *testing.T, r api.Record) api.Record { t.Helper(); return got(t, runs.Tight, r) }
func schedule(t *testing.T, r api.Record) []int   { t.Helper(); return got(t, runs.Schedule, r) }
func observe(t *testing.T, r api.Record) api.Seen { t.Helper(); return got(t, runs.Observe, r) }
func written(t *testing.T, r api.Record) []byte   { t.Helper(); return got(t, runs.Bytes, r) }

// gotAt is what a call with a valid record and a number of steps returns.
func gotAt[T any](t *testing.T, call func(api.Record, int) (T, api.Errno), r api.Record, n int) T {
	t.Helper()
	x, err := call(r, n)
	wantOK(t, "a valid record and number", err)
	return x
}

func cut(t *testing.T, r api.Record, n int) api.Record { t.Helper(); return gotAt(t, runs.Cut, r, n) }
func at(t *testing.T, r api.Record, n int) api.World   { t.Helper(); return gotAt(t, runs.At, r, n) }

func wantOK(t *testing.T, name string, err api.Errno) {
	t.Helper()
	if err != api.OK {
		t.Fatalf("%s: %d", name, err)
	}
}

// wantCount holds that something that a test is about has come up often enough.
func wantCount(t *testing.T, count map[string]int, least int, keys ...string) {
	t.Helper()
	for _, key := range keys {
		if count[key] < least {
			t.Errorf("%s: only %d times", key, count[key])
		}
	}
}
