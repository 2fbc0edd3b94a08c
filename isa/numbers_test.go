package isa_test

import (
	"cmp"
	"math"
	"testing"

	"candling/api"
	"candling/isa"
)

const count = 73882029336998

// countOf returns how many instructions of an operation there are.
func countOf(o operation) uint64 {
	n := uint64(1)
	for _, l := range limitsOf(o) {
		n *= uint64(l[1] - l[0] + 1)
	}
	return n
}

// compare is the order of instructions.
func compare(x, y api.Insn) int {
	return cmp.Or(cmp.Compare(x.Op, y.Op), cmp.Compare(x.A, y.A), cmp.Compare(x.B, y.B), cmp.Compare(x.C, y.C),
		cmp.Compare(x.D, y.D), cmp.Compare(x.K, y.K), cmp.Compare(x.I, y.I))
}

// P1.5: the chapter's examples, and the numbers that it excludes.
func TestNumbersOfExamples(t *testing.T) {
	if n := isa.Count(); n != count {
		t.Errorf("Count: %d", n)
	}
	for _, c := range []struct {
		x api.Insn
		n uint64
	}{
		{api.Insn{Op: api.OpNop}, 0},
		{api.Insn{Op: api.OpMov}, 1},
		{api.Insn{Op: api.OpMov, B: 1}, 2},
		{api.Insn{Op: api.OpMov, A: 1}, 17},
		{api.Insn{Op: api.OpMov, A: 15, B: 15}, 256},
		{api.Insn{Op: api.OpAdd}, 257},
		{api.Insn{Op: api.OpAdd, C: 1}, 258},
		{api.Insn{Op: api.OpCmpI, B: 15, I: math.MaxUint32}, count - 1},
	} {
		if n, err := isa.Rank(c.x); err != api.OK || n != c.n {
			t.Errorf("Rank of %v: %d, %d", c.x, n, err)
		}
		if x, err := isa.Unrank(c.n); err != api.OK || x != c.x {
			t.Errorf("Unrank of %d: %v, %d", c.n, x, err)
		}
	}
	for _, n := range []uint64{count, count + 1, 1 << 63, math.MaxUint64} {
		if x, err := isa.Unrank(n); err != api.ErrArg || x != (api.Insn{}) {
			t.Errorf("Unrank of %d: %v, %d", n, x, err)
		}
	}
}

// P1.5, P1.9: each operation's first and last number, and samples in between, whose numbers are calculated from their fields.
func TestRankOfSamples(t *testing.T) {
	ahead := uint64(0)
	for _, o := range operationTable() {
		lim := limitsOf(o)
		for _, x := range samples(o) {
			want := uint64(0)
			for f, v := range values(x) {
				want = want*uint64(lim[f][1]-lim[f][0]+1) + uint64(v-lim[f][0])
			}
			want += ahead
			if n, err := isa.Rank(x); err != api.OK || n != want {
				t.Fatalf("Rank of %v: %d, %d instead of %d", x, n, err, want)
			}
			if y, err := isa.Unrank(want); err != api.OK || y != x {
				t.Fatalf("Unrank of %d: %v, %d instead of %v", want, y, err, x)
			}
		}
		ahead += countOf(o)
	}
	if ahead != count {
		t.Errorf("the operations have %d instructions", ahead)
	}
}

// P1.9: Unrank goes up without a gap at both ends of each operation, and anywhere.
func TestNumbersKeepTheOrder(t *testing.T) {
	l := []uint64{0, count - 2}
	ahead := uint64(0)
	for _, o := range operationTable() {
		ahead += countOf(o)
		if ahead < count {
			l = append(l, ahead-1, ahead)
		}
	}
	for n := range uint64(3000) {
		l = append(l, n)
	}
	for _, n := range numbers(30000) {
		l = append(l, n%(count-1), n%1911205)
	}
	for _, n := range l {
		x, err := isa.Unrank(n)
		y, err2 := isa.Unrank(n + 1)
		if n+1 == count {
			y, err2 = api.Insn{Op: api.MaxOp + 1}, api.OK
		}
		if err != api.OK || err2 != api.OK || compare(x, y) >= 0 || isa.Check(x) != api.OK {
			t.Fatalf("Unrank of %d and the next one: %v, %v, %d, %d", n, x, y, err, err2)
		}
		if back, err := isa.Rank(x); err != api.OK || back != n {
			t.Fatalf("Rank of Unrank of %d: %d, %d", n, back, err)
		}
	}
}
