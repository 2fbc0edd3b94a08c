package isa_test

import (
	"testing"

	"candling/api"
	"candling/isa"
)

// P1.4: all operations.
func TestUses(t *testing.T) {
	for _, o := range operationTable() {
		for _, x := range samples(o) {
			if u, err := isa.UsesOf(x); err != api.OK || u != usesOf(o, x) {
				t.Fatalf("UsesOf of %v: %v, %d", x, u, err)
			}
		}
	}
}

// P1.4: the chapter's example, and cases that it names, with their numbers.
func TestUsesOfExamples(t *testing.T) {
	for _, c := range []struct {
		x api.Insn
		u api.Uses
	}{
		{api.Insn{Op: api.OpPush, A: 3}, api.Uses{Reads: 32776, Writes: 32768, Store: 4}},
		{api.Insn{Op: api.OpPop, A: 3}, api.Uses{Reads: 32768, Writes: 32776, Load: 4}},
		{api.Insn{Op: api.OpPop, A: 15}, api.Uses{Reads: 32768, Writes: 32768, Load: 4}},
		{api.Insn{Op: api.OpCall, I: 8}, api.Uses{Reads: 32768, Writes: 32768, Store: 4, Jumps: true}},
		{api.Insn{Op: api.OpCas, A: 1, B: 2, C: 3}, api.Uses{Reads: 14, Writes: 2, FlagsOut: true, Load: 4, Store: 4}},
		{api.Insn{Op: api.OpSwap, A: 1, B: 2}, api.Uses{Reads: 6, Writes: 2, Load: 4, Store: 4}},
		{api.Insn{Op: api.OpVIn, A: 5, B: 6}, api.Uses{Reads: 64, VReads: 32, VWrites: 32}},
		{api.Insn{Op: api.OpVStore, A: 5, B: 6}, api.Uses{Reads: 64, VReads: 32, Store: 16}},
		{api.Insn{Op: api.OpVLoad, A: 5, B: 6}, api.Uses{Reads: 64, VWrites: 32, Load: 16}},
		{api.Insn{Op: api.OpSys}, api.Uses{Reads: 15, Writes: 1}},
		{api.Insn{Op: api.OpReq}, api.Uses{Reads: 3, Writes: 1}},
		{api.Insn{Op: api.OpJcc, D: api.CdAlways}, api.Uses{FlagsIn: true, Jumps: true}},
		{api.Insn{Op: api.OpSbb, A: 1, B: 1, C: 1}, api.Uses{Reads: 2, Writes: 2, FlagsIn: true, FlagsOut: true}},
		{api.Insn{Op: api.OpStore8, A: 9, B: 9}, api.Uses{Reads: 512, Store: 1}},
		{api.Insn{Op: api.OpMul, A: 1, B: 2, C: 3}, api.Uses{Reads: 12, Writes: 2}},
		{api.Insn{Op: api.OpBrk}, api.Uses{}},
	} {
		if u, err := isa.UsesOf(c.x); err != api.OK || u != c.u {
			t.Errorf("UsesOf of %v: %v, %d", c.x, u, err)
		}
	}
}
