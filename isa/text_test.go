package isa_test

import (
	"math"
	"slices"
	"strings"
	"testing"

	"candling/api"
	"candling/isa"
)

// kindOf returns the number of a kind of operand.
func kindOf(s string) int {
	names := strings.Fields("RA RB RC VA VB VC Cond Ext Lane Word Scale K I MemK MemI")
	return slices.Index(names, s) + 1
}

// P1.2, P1.11: names and operands of all operations.
func TestNames(t *testing.T) {
	seen := map[string]int{}
	for _, o := range operationTable() {
		name, is := isa.Name(o.op)
		if !is || name != o.name {
			t.Errorf("Name of %d: %q, %v", o.op, name, is)
		}
		if op, is := isa.Op(name); !is || op != o.op {
			t.Errorf("Op of %q: %d, %v", name, op, is)
		}
		if other := seen[name]; other != 0 {
			t.Errorf("%d and %d are both %q", other, o.op, name)
		}
		seen[name] = o.op
		var want []int
		for _, s := range strings.Fields(o.operands) {
			want = append(want, kindOf(s))
		}
		if l, is := isa.Fields(o.op); !is || !slices.Equal(l, want) {
			t.Errorf("Fields of %d: %v, %v", o.op, l, is)
		}
	}
}

// P1.2: where there is none.
func TestNoNames(t *testing.T) {
	for _, op := range []int{0, -1, 62, 63, 73, 74, 255, 256 + 1, 1<<32 + 1, math.MinInt, math.MaxInt} {
		if s, is := isa.Name(op); is || s != "" {
			t.Errorf("Name of %d: %q, %v", op, s, is)
		}
		if l, is := isa.Fields(op); is || len(l) != 0 {
			t.Errorf("Fields of %d: %v, %v", op, l, is)
		}
	}
	for _, s := range []string{"", " ", "Nop", "NOP", "nop ", " nop", "no", "nopp", "add r1", "0", "vadd8", "\x00", "jc", "load", "b"} {
		if op, is := isa.Op(s); is || op != 0 {
			t.Errorf("Op of %q: %d, %v", s, op, is)
		}
	}
}

// R2: Fields returns new memory.
func TestFieldsShareNothing(t *testing.T) {
	for _, o := range operationTable() {
		l, _ := isa.Fields(o.op)
		want := slices.Clone(l)
		clear(l)
		l = append(l, 99)
		if again, _ := isa.Fields(o.op); !slices.Equal(again, want) {
			t.Errorf("Fields of %s after a change: %v", o.name, again)
		}
	}
}

// P1.3: the chapter's examples, and all conditions.
func TestTextsOfExamples(t *testing.T) {
	for _, c := range []struct {
		x api.Insn
		s string
	}{
		{api.Insn{Op: api.OpLea, A: 1, B: 2, C: 3, D: 2, I: 255}, "lea r1, r2, r3, 2, 0xff"},
		{api.Insn{Op: api.OpVAdd, A: 1, B: 2, C: 7, D: 1}, "vadd v1, v2, v7, 16"},
		{api.Insn{Op: api.OpJcc, D: 1}, "jcc ne, 0x0"},
		{api.Insn{Op: api.OpLoad8, A: 2, B: 1, K: -4}, "load8 r2, [r1-4]"},
		{api.Insn{Op: api.OpLoad8, A: 2, B: 1}, "load8 r2, [r1]"},
		{api.Insn{Op: api.OpVStore, A: 7, B: 15, K: 127}, "vstore v7, [r15+127]"},
		{api.Insn{Op: api.OpVStore, A: 7, B: 15, K: -128}, "vstore v7, [r15-128]"},
		{api.Insn{Op: api.OpStoreI, A: 3, B: 10, I: 0xdeadbeef}, "storei r3, [r10+0xdeadbeef]"},
		{api.Insn{Op: api.OpLoadI, A: 3, B: 10}, "loadi r3, [r10+0x0]"},
		{api.Insn{Op: api.OpCas, A: 1, C: 3, B: 2, K: 1}, "cas r1, r3, [r2+1]"},
		{api.Insn{Op: api.OpCmpK, B: 4, K: -1}, "cmpk r4, -1"},
		{api.Insn{Op: api.OpCmpK, B: 4}, "cmpk r4, 0"},
		{api.Insn{Op: api.OpVIn, A: 7, B: 12, D: 3}, "vin v7, r12, 3"},
		{api.Insn{Op: api.OpExt, A: 7, B: 12}, "ext r7, r12, z8"},
		{api.Insn{Op: api.OpNop}, "nop"},
	} {
		if s, err := isa.Text(c.x); err != api.OK || s != c.s {
			t.Errorf("Text of %v: %q, %d", c.x, s, err)
		}
		if x, err := isa.Parse(c.s); err != api.OK || x != c.x {
			t.Errorf("Parse of %q: %v, %d", c.s, x, err)
		}
	}
	for d, name := range strings.Fields("e ne b ae s ns o no be a l ge le g al nv") {
		want := api.Insn{Op: api.OpSetC, A: 4, D: d}
		if x, err := isa.Parse("setc r4, " + name); err != api.OK || x != want {
			t.Errorf("Parse of the condition %s: %v, %d", name, x, err)
		}
	}
}

// P1.3, P1.7, P1.11: all operations.
func TestTexts(t *testing.T) {
	seen := map[string]api.Insn{}
	for _, o := range operationTable() {
		for _, x := range samples(o) {
			s, err := isa.Text(x)
			if err != api.OK || s != textOf(o, x) {
				t.Fatalf("Text of %v: %q, %d", x, s, err)
			}
			if y, err := isa.Parse(s); err != api.OK || y != x {
				t.Fatalf("Parse of %q: %v, %d", s, y, err)
			}
			if y, is := seen[s]; is {
				t.Fatalf("%v and %v have the same text %q", x, y, s)
			}
			seen[s] = x
			name, rest, _ := strings.Cut(s, " ")
			operands := 0
			if rest != "" {
				operands = len(strings.Split(rest, ", "))
			}
			l, _ := isa.Fields(o.op)
			if name != o.name || operands != len(l) {
				t.Fatalf("the text %q has %d operands", s, operands)
			}
		}
	}
}

// P1.3: what is not the text of an instruction.
func TestNoTexts(t *testing.T) {
	for _, s := range []string{
		"", " ", "nop ", " nop", "Nop", "nop\n", "\tnop", "nop,", "nop r0", "nop, r0", "xyz", "r1", "62",
		"load8 r2, [r1+0]", "load8 r2, [r1-0]", "load8 r2, [r1+-4]", "load8 r2, [r1--4]", "load8 r2, [r1++4]",
		"load8 r2, [r1+128]", "load8 r2, [r1-129]", "load8 r2, [r1+04]", "load8 r2, [r1+]", "load8 r2, [r1-]",
		"load8 r2, [r01]", "load8 r2, [r16]", "load8 r2, [r1", "load8 r2, r1]", "load8 r2, [1]", "load8 r2, []",
		"load8 r2, [r]", "load8 r2, [v1]", "load8 r2, [ r1]", "load8 r2, [r1 ]", "load8 r2, [r1 +4]", "load8 r2, [r1+0x4]",
		"load8 r2, [r-1]", "load8 r2, [r+1]", "load8 r2, [r1]]", "load8 r2, [[r1]", "load8 r2, [r1+4] ",
		"load8 r2,[r1]", "load8 r2,  [r1]", "load8  r2, [r1]", "load8 r2 , [r1]", "load8 r2 [r1]", "load8 r2,\t[r1]",
		"load8\tr2, [r1]", "load8 r2", "load8 r2, ", "load8 ", "load8", "load8 r2, [r1], ", "load8 r2, [r1], r3", "load8 , [r1]",
		"loadi r2, [r1]", "loadi r2, [r1+0]", "loadi r2, [r1+4]", "loadi r2, [r1-0x4]", "loadi r2, [r1+0x]",
		"loadi r2, [r1+0x04]", "loadi r2, [r1+0x100000000]", "loadi r2, [r1+0X4]", "loadi r2, [r1+0xA]", "loadi r2, [+0x4]",
		"loadi r2, [r16+0x4]", "loadi r2, [r1+0x4+0x4]", "loadi r2, [r1+0x-4]",
		"add r1, r2", "add r1, r2, r3, r4", "add r01, r2, r3", "add r16, r0, r0", "add r0, r16, r0", "add r0, r0, r16",
		"add r-1, r2, r3", "add r+1, r2, r3", "add R1, r2, r3", "add v1, r2, r3", "add 1, r2, r3", "add r, r2, r3",
		"add r1, r2, r3 ", "add r1, r2, r3,", "add r1, r2, 3", "add r1, r2, r3\n", "add r1, r99999999999999999999, r3",
		"add r１, r2, r3", "add r0x1, r2, r3", "add r1_0, r2, r3", "add r1e0, r2, r3", "sp", "push sp",
		"jcc ne, 0X0", "jcc ne, 0x00", "jcc ne, 0", "jcc ne, 0x", "jcc NE, 0x0", "jcc 1, 0x0", "jcc , 0x0", "jcc nz, 0x0",
		"jcc ne, 0xG", "jcc ne, 0xABC", "jcc ne, 0x123456789", "jcc ne, 0x1_0", "jcc ne, -0x1", "jcc ne, 0x+1", "jcc ne, 0x0x0", "jcc ne",
		"addk r1, r2, +5", "addk r1, r2, 128", "addk r1, r2, -129", "addk r1, r2, -0", "addk r1, r2, 05", "addk r1, r2, -05",
		"addk r1, r2, 0x5", "addk r1, r2, ", "addk r1, r2, -", "addk r1, r2, 5.0", "addk r1, r2, 18446744073709551617",
		"vadd v1, v2, v8, 16", "vadd v8, v2, v1, 16", "vadd v1, v8, v1, 16", "vadd v1, v2, v3, 1", "vadd v1, v2, v3, 64",
		"vadd v1, v2, v3, 08", "vadd v1, v2, v3", "vadd r1, v2, v3, 8", "vadd v1, v2, v3, ", "vand v1, v2, v3, 8",
		"ext r1, r2, 8", "ext r1, r2, z32", "ext r1, r2, Z8", "ext r1, r2, s", "ext r1, r2, 0",
		"vin v1, r2, 4", "vin v1, r2, -1", "vin v1, r2, 00", "vin v1, v2, 0", "vin r1, r2, 0", "vout r1, r2, 0",
		"lea r1, r2, r3, 4, 0xff", "lea r1, r2, r3, 2", "lea r1, r2, r3, 0xff", "lea r1, r2, r3, +2, 0xff",
		"set r1, 1", "set r1, 0xffffffff0", "set r1, 0xFFFFFFFF", "set r1, 0x\x00", "s\xffet r1, 0x1",
	} {
		if x, err := isa.Parse(s); err != api.ErrForm || x != (api.Insn{}) {
			t.Errorf("Parse of %q: %v, %d", s, x, err)
		}
	}
	for _, s := range []string{strings.Repeat("a", 100000), "set r1, 0x" + strings.Repeat("0", 100000), "add " + strings.Repeat("r1, ", 50000)} {
		if x, err := isa.Parse(s); err != api.ErrForm || x != (api.Insn{}) {
			t.Errorf("Parse of a long text: %v, %d", x, err)
		}
	}
}

// P1.7: what Parse accepts is the text of what it returns; texts with one byte changed, removed or inserted.
func TestTextsWithChanges(t *testing.T) {
	for _, o := range operationTable() {
		for i, x := range samples(o) {
			if i%101 != 0 {
				continue
			}
			s := textOf(o, x)
			for at := range len(s) + 1 {
				for _, c := range " ,0123456789abcdefghijklmnopqrstuvwxyz[]+-XAR\n" {
					checkParse(t, s[:at]+string(c)+s[at:])
					if at < len(s) {
						checkParse(t, s[:at]+string(c)+s[at+1:])
					}
				}
				if at < len(s) {
					checkParse(t, s[:at]+s[at+1:])
				}
			}
		}
	}
}

func checkParse(t *testing.T, s string) {
	t.Helper()
	x, err := isa.Parse(s)
	if err == api.ErrForm && x == (api.Insn{}) {
		return
	}
	if back, e := isa.Text(x); err != api.OK || e != api.OK || back != s {
		t.Fatalf("Parse of %q: %v, %d, with the text %q", s, x, err, back)
	}
}
