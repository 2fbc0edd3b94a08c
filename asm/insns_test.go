package asm_test

import (
	"strings"
	"testing"

	"candling/api"
	"candling/asm"
	"candling/isa"
)

// wantInsn assembles a line behind .text, and compares the instruction and the relocation.
func wantInsn(t *testing.T, line string, want api.Insn, relocs ...api.Reloc) {
	t.Helper()
	o := assembled(t, lines(".equ k, 5", ".equ w, 16", ".import x", ".text", line), "")
	l, _, err := isa.List(o.Sections[0].B)
	if err != api.OK || len(l) != 1 || l[0] != want {
		t.Errorf("%s: %v, %d; want %v", line, l, err, want)
	}
	if len(o.Relocs) != len(relocs) || len(relocs) == 1 && o.Relocs[0] != relocs[0] {
		t.Errorf("%s: %v; want %v", line, o.Relocs, relocs)
	}
}

// P2.5: the texts of instructions of all operations, alone and together.
func TestTextsOfInstructions(t *testing.T) {
	r := random(3)
	src := ".text\n"
	var want []byte
	for _, op := range allOps() {
		for range 60 {
			x := randomInsn(r, op)
			s, b := textOf(t, x), bytesOf(t, x)
			wantObject(t, lines(".text", s), "", sections(text(b...)))
			src, want = src+s+"\n", append(want, b...)
		}
	}
	wantObject(t, src, "", sections(text(want...)))
}

// P2.2: the liberties of operands.
func TestOperands(t *testing.T) {
	wantInsn(t, "push sp", api.Insn{Op: api.OpPush, A: 15})
	wantInsn(t, "\tadd\tsp,fp ,r10;", api.Insn{Op: api.OpAdd, A: 15, B: 14, C: 10})
	wantInsn(t, "load8 sp, [ fp ]", api.Insn{Op: api.OpLoad8, A: 15, B: 14})
	wantInsn(t, "load8 r1,[sp+k-1+'a'-0x5d]", api.Insn{Op: api.OpLoad8, A: 1, B: 15, K: 8})
	wantInsn(t, "load8 r1, [r2 - 4]", api.Insn{Op: api.OpLoad8, A: 1, B: 2, K: -4})
	wantInsn(t, "load8 r1, [r2+0]", api.Insn{Op: api.OpLoad8, A: 1, B: 2})
	wantInsn(t, "load8 r1, [r2+1000-873]", api.Insn{Op: api.OpLoad8, A: 1, B: 2, K: 127})
	wantInsn(t, "load8 r1, [r2-128]", api.Insn{Op: api.OpLoad8, A: 1, B: 2, K: -128})
	wantInsn(t, "cas r1, r2, [r3-k]", api.Insn{Op: api.OpCas, A: 1, C: 2, B: 3, K: -5})
	wantInsn(t, "vstore v7, [sp+0x10]", api.Insn{Op: api.OpVStore, A: 7, B: 15, K: 16})
	wantInsn(t, "addk r1, r1, -k+1", api.Insn{Op: api.OpAddK, A: 1, B: 1, K: -4})
	wantInsn(t, "cmpk r1, 0x7f", api.Insn{Op: api.OpCmpK, B: 1, K: 127})
	wantInsn(t, "cmpk r1, 200-328", api.Insn{Op: api.OpCmpK, B: 1, K: -128})
	wantInsn(t, "vin v1, fp, k-2", api.Insn{Op: api.OpVIn, A: 1, B: 14, D: 3})
	wantInsn(t, "vadd v1, v2, v3, 0x20", api.Insn{Op: api.OpVAdd, A: 1, B: 2, C: 3, D: 2})
	wantInsn(t, "vadd v1, v2, v3, w", api.Insn{Op: api.OpVAdd, A: 1, B: 2, C: 3, D: 1})
	wantInsn(t, "veq v1, v2, v3, 4+4", api.Insn{Op: api.OpVEq, A: 1, B: 2, C: 3})
	wantInsn(t, "lea r1, r2, r3, 1+1, -1", api.Insn{Op: api.OpLea, A: 1, B: 2, C: 3, D: 2, I: 1<<32 - 1})
	wantInsn(t, "set r1, -0x80000000", api.Insn{Op: api.OpSet, A: 1, I: 1 << 31})
	wantInsn(t, "set r1, 4294967295", api.Insn{Op: api.OpSet, A: 1, I: 1<<32 - 1})
	wantInsn(t, "set r1, 'a'", api.Insn{Op: api.OpSet, A: 1, I: 97})
	wantInsn(t, "set r1, k", api.Insn{Op: api.OpSet, A: 1, I: 5})
	wantInsn(t, "jmp 4294967295+4294967295-4294967295", api.Insn{Op: api.OpJmp, I: 1<<32 - 1})
	wantInsn(t, "loadi r1, [r2]", api.Insn{Op: api.OpLoadI, A: 1, B: 2})
	wantInsn(t, "loadi r1, [sp-4]", api.Insn{Op: api.OpLoadI, A: 1, B: 15, I: 1<<32 - 4})
	wantInsn(t, "storei r1, [r2+4294967295]", api.Insn{Op: api.OpStoreI, A: 1, B: 2, I: 1<<32 - 1})
	wantInsn(t, "storei r1, [r2-0x80000000]", api.Insn{Op: api.OpStoreI, A: 1, B: 2, I: 1 << 31})
	wantInsn(t, "setc r1, nv", api.Insn{Op: api.OpSetC, A: 1, D: 15})
	wantInsn(t, "ext r1, r2, s16", api.Insn{Op: api.OpExt, A: 1, B: 2, D: 3})
	wantInsn(t, "jmp x", api.Insn{Op: api.OpJmp}, reloc(0, 4, api.RlWord, 0, 0))
	wantInsn(t, "call 4+x-k", api.Insn{Op: api.OpCall}, reloc(0, 4, api.RlWord, 0, -1))
	wantInsn(t, "call -4+x", api.Insn{Op: api.OpCall}, reloc(0, 4, api.RlWord, 0, -4))
	wantInsn(t, "jcc ge, x+2147483647", api.Insn{Op: api.OpJcc, D: 11}, reloc(0, 4, api.RlWord, 0, 1<<31-1))
	wantInsn(t, "set sp, x-0x80000000", api.Insn{Op: api.OpSet, A: 15}, reloc(0, 4, api.RlWord, 0, -1<<31))
	wantInsn(t, "loadi r1, [r2+x]", api.Insn{Op: api.OpLoadI, A: 1, B: 2}, reloc(0, 4, api.RlWord, 0, 0))
	wantInsn(t, "loadi r1, [r2-4+x+k]", api.Insn{Op: api.OpLoadI, A: 1, B: 2}, reloc(0, 4, api.RlWord, 0, 1))
	wantInsn(t, "lea r1, fp, r3, 3, x-1", api.Insn{Op: api.OpLea, A: 1, B: 14, C: 3, D: 3}, reloc(0, 4, api.RlWord, 0, -1))
	wantInsn(t, "cmpi r1, x", api.Insn{Op: api.OpCmpI, B: 1}, reloc(0, 4, api.RlWord, 0, 0))
}

// P2.2: what are no operands, whether there is a section or not.
func TestOperandErrors(t *testing.T) {
	for _, s := range []string{
		"nop r1", "nop ,", "nop 1", "ret \"a\"", "push", "push r1, r2", "push r1,", "push ,r1", "push r1 r2", "push r16", "push r01", "push R1", "push r", "push SP",
		"push v1", "push 1", "push k", "push [r1]", "push \"r1\"", "push 'a'", "push -r1", "push r1+1", "push r99999999999999999999", "push r1$", "push x", "push s", "push r1:",
		"add r1, r2", "add r1, r2, r3, r4", "add r1 r2 r3", "add r1, r2, 3", "add r1,, r3", "add , ,",
		"vmov v8, v1", "vmov v1, v8", "vmov r1, v1", "vmov v1, sp", "vmov v01, v1", "vmov sp, fp", "vsplat v1, v1", "vmask v1, v1",
		"setc r1", "setc r1, z", "setc r1, 1", "setc r1, E", "setc r1, e e", "setc r1, \"e\"", "setc r1, k", "setc r1, sp", "jcc x", "jcc r1, x", "jcc x, e", "sel r1, r2, r3, 0",
		"ext r1, r2, z32", "ext r1, r2, 8", "ext r1, r2, 0", "ext r1, r2, Z8", "ext r1, r2",
		"vadd v1, v2, v3", "vadd v1, v2, v3, 64", "vadd v1, v2, v3, 0", "vadd v1, v2, v3, 1", "vadd v1, v2, v3, -8", "vadd v1, v2, v3, x", "vadd v1, v2, v3, z8", "vand v1, v2, v3, 8",
		"vin v1, r1, 4", "vin v1, r1, -1", "vin v1, r1, x", "vin v1, r1, r1", "vout r1, v1, 256", "lea r1, r2, r3, 4, 0", "lea r1, r2, r3, x, 0", "lea r1, r2, r3, 0", "lea r1, r2, r3, 0, 0, 0",
		"addk r1, r1, 128", "addk r1, r1, -129", "addk r1, r1, x", "addk r1, r1, 255", "addk r1, r1, 4294967295", "addk r1, r1, 127+1", "addk r1, r1, +1", "addk r1, r1, --1", "addk r1, r1, 1 1",
		"addk r1, r1, \"a\"", "addk r1, r1, r1", "addk r1, r1, 1+", "addk r1, r1, [1]",
		"load8 r1, r2", "load8 r1, [r2", "load8 r1, r2]", "load8 r1, []", "load8 r1, [1]", "load8 r1, [k]", "load8 r1, [r2+128]", "load8 r1, [r2-129]", "load8 r1, [r2+x]", "load8 r1, [r2+r3]", "load8 r1, [r2 4]",
		"load8 r1, [r2+]", "load8 r1, [r2++1]", "load8 r1, [r2+-1]", "load8 r1, [-r2]", "load8 r1, [4+r2]", "load8 r1, [r2]+4", "load8 r1, [r2] r3", "load8 r1, [[r2]]", "load8 r1, [r16]", "load8 r1, [v1]",
		"load8 r1, 4[r2]", "load8 r1, [r2]]", "load8 r1, [r2, 4]", "load8 r1, [\"r2\"]", "load8 r1, [r2+\"a\"]", "load8 [r1], r2", "load8 r1, [", "load8 r1, ]", "load8 r1, ][", "load8 r1, [x]",
		"loadi r1, [r2+4294967295+1]", "loadi r1, [r2-0x80000001]", "loadi r1, [r2-x]", "loadi r1, [r2+x+x1]", "loadi r1, [r2+x+2147483648]", "loadi r1, [r2+x-0x80000001]", "loadi r1, [x]", "loadi r1, [x+r2]", "loadi r1, x", "loadi r1, []",
		"set r1", "set r1, 4294967295+1", "set r1, -0x80000001", "set r1, x+2147483648", "set r1, x-0x80000001", "set r1, -x", "set r1, x+x1", "set r1, x-x1", "set r1, +1", "set r1, \"a\"", "set r1, x x", "set r1, [x]", "set r1, x:", "set 1, r1",
		"jmp", "jmp x, x", "jmp -x", "jmp [r1]", "jmp x+", "jmp \"x\"", "call", "call x y", "cmpi 1, r1", "cmpi r1",
	} {
		wantError(t, lines(".equ k, 5", ".text", s, "x: x1:"), "", 3, api.ErrOperand)
		wantError(t, lines(".equ k, 5", s), "", 2, api.ErrOperand)
	}
}

// P2.2: a line with changes is the same instruction, or none.
func TestInstructionsWithChanges(t *testing.T) {
	r := random(4)
	for range 20000 {
		s := textOf(t, randomInsn(r, pick(r, allOps()...)))
		at := r.IntN(len(s))
		changed := s[:at] + string(" ,0123456789abefrsvxz[]+-;"[r.IntN(26)]) + s[at+r.IntN(2):]
		o, line, err := asm.Assemble(".text\n"+changed, "")
		code, _, _ := strings.Cut(changed, ";")
		x, none := isa.Parse(strings.TrimRight(code, " "))
		if none == api.OK && (err != api.OK || string(o.Sections[0].B) != string(bytesOf(t, x))) {
			t.Fatalf("%s: %v, %d", changed, o, err)
		}
		if err == api.OK && len(o.Relocs) == 0 && len(o.Symbols) == 0 && len(o.Sections[0].B) > 0 {
			wantSameText(t, changed, o.Sections[0].B)
		}
		if err != api.OK && (line != 2 || !same(o, api.Object{})) {
			t.Fatalf("%s: %d in line %d", changed, err, line)
		}
	}
}

// wantSameText holds that the text of what a line was assembled to is assembled to the same.
func wantSameText(t *testing.T, line string, b []byte) {
	t.Helper()
	x, n, err := isa.Decode(b)
	if err != api.OK || n != len(b) {
		t.Fatalf("%s is assembled to %v", line, b)
	}
	wantObject(t, ".text\n"+textOf(t, x), "", sections(text(b...)))
}
