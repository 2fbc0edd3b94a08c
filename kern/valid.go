package kern

import (
	"candling/api"
	"candling/heap"
	"candling/mem"
)

// Limits of worlds that package api does not name.
const (
	mostFlags = 15
	mostMask  = 127 // all signals but SigKill, which cannot be blocked
	mostSteps = 1000000000
)

// heapRights is the rights that the pages of the heap have.
const heapRights = api.RtRead | api.RtWrite

func isWithin(n, least, most int) bool { return n >= least && n <= most }

func areThreads(l []api.Thread) bool {
	if !isWithin(len(l), 1, api.MaxThreads) {
		return false
	}
	for i, t := range l {
		isOne := isWithin(t.CPU.F, 0, mostFlags) && isWithin(t.Mask, 0, mostMask) && areSignals(t.Sent)
		if !isOne || !waitsRightly(t, i, len(l)) {
			return false
		}
	}
	return true
}

func areSignals(l []int) bool {
	for _, sig := range l {
		if !isWithin(sig, 1, api.MaxSig) {
			return false
		}
	}
	return len(l) <= api.MaxSent
}

// waitsRightly reports whether a thread, of so many, has a status, and waits for what it says.
func waitsRightly(t api.Thread, number, threads int) bool {
	switch t.Status {
	case api.ThReady, api.ThDone:
		return t.W == 0
	case api.ThJoin:
		return int(t.W) != number && int(t.W) < threads
	}
	return t.Status == api.ThLock
}

// hasMemory reports whether a world has the pages of a memory, and a heap in it.
func hasMemory(w api.World) bool {
	memory, err := mem.Load(w.Pages)
	if err != api.OK || heap.Check(w.Heap) != api.OK {
		return false
	}
	for i := range w.Heap.Conf.N {
		if rights, _ := memory.Rights(w.Heap.Conf.Page + i); rights != heapRights {
			return false
		}
	}
	return true
}

// meetsHeap reports whether one of n pages from a number on is a page of the heap.
func meetsHeap(c api.HeapConf, page, n int) bool {
	return max(page, c.Page) < min(page+n, c.Page+c.N)
}

// areLocks reports whether the mutexes of a world, whose threads are right, are.
func areLocks(w api.World) bool {
	for i, l := range w.Locks {
		isSorted := i == 0 || l.At > w.Locks[i-1].At
		isOwned := isWithin(l.Owner, 0, len(w.Threads)-1) && w.Threads[l.Owner].Status != api.ThDone
		if !isSorted || !isOwned {
			return false
		}
	}
	return len(w.Locks) <= api.MaxLocks
}

// hasEnds reports whether input, output, steps, handlers and the end of a world are right.
func hasEnds(w api.World) bool {
	isOpen := w.Code == 0 && w.Sig == 0 && !areDone(w.Threads)
	return w.Actions[api.SigKill-1] == 0 &&
		len(w.In) <= api.MaxIn && isWithin(w.InAt, 0, len(w.In)) &&
		len(w.Out) <= api.MaxOut &&
		isWithin(w.Steps, 0, mostSteps) &&
		isWithin(w.Sig, 0, api.MaxSig) &&
		(w.Ended || isOpen)
}

func areDone(l []api.Thread) bool {
	for _, t := range l {
		if t.Status != api.ThDone {
			return false
		}
	}
	return true
}
