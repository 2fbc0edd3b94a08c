package asm_test

import (
	"fmt"
	"math/rand/v2"
	"strings"
	"testing"

	"candling/api"
	"candling/asm"
	"candling/isa"
)

// lines joins lines to a source text.
func lines(l ...string) string { return strings.Join(l, "\n") + "\n" }

// same compares objects; nil and empty slices are equal.
func same(a, b api.Object) bool { return fmt.Sprintf("%+v", a) == fmt.Sprintf("%+v", b) }

// assembled returns the object of a text in which there is no error.
func assembled(t *testing.T, src, file string) api.Object {
	t.Helper()
	o, line, err := asm.Assemble(src, file)
	if err != api.OK || line != 0 {
		t.Fatalf("Assemble of\n%s: %d in line %d", cut(src), err, line)
	}
	return o
}

// cut shortens a text for a message.
func cut(s string) string {
	if len(s) > 3000 {
		return s[:3000] + ".."
	}
	return s
}

func wantObject(t *testing.T, src, file string, want api.Object) {
	t.Helper()
	if o := assembled(t, src, file); !same(o, want) {
		t.Errorf("Assemble of\n%s:\n%+v\nwant\n%+v", cut(src), o, want)
	}
}

func wantError(t *testing.T, src, file string, line int, err api.Errno) {
	t.Helper()
	o, n, e := asm.Assemble(src, file)
	if n != line || e != err || !same(o, api.Object{}) {
		t.Errorf("Assemble of\n%s: %d in line %d, want %d in line %d; %v", cut(src), e, n, err, line, o)
	}
}

// wantBytes assembles lines in a section of data, and compares its bytes.
func wantBytes(t *testing.T, src string, want ...byte) {
	t.Helper()
	o := assembled(t, ".data\n"+src, "")
	if string(o.Sections[0].B) != string(want) {
		t.Errorf("the bytes of %s: %v, want %v", src, o.Sections[0].B, want)
	}
}

func random(seed uint64) *rand.Rand { return rand.New(rand.NewPCG(seed, 7)) }

func pick[T any](r *rand.Rand, l ...T) T { return l[r.IntN(len(l))] }

// allOps returns all operations.
func allOps() []int {
	var l []int
	for op := range api.MaxOp + 1 {
		if _, is := isa.Name(op); is {
			l = append(l, op)
		}
	}
	return l
}

// randomInsn returns an instruction of an operation; numbers are often the ends of their ranges.
func randomInsn(r *rand.Rand, op int) api.Insn {
	x := api.Insn{Op: op}
	k := pick(r, -128, -1, 0, 1, 127, r.IntN(256)-128)
	i := pick(r, 0, 1, 0x7fffffff, 0x80000000, 0xffffffff, r.Uint32())
	kinds, _ := isa.Fields(op)
	for _, kind := range kinds {
		switch kind {
		case api.FdRA:
			x.A = r.IntN(16)
		case api.FdRB:
			x.B = r.IntN(16)
		case api.FdRC:
			x.C = r.IntN(16)
		case api.FdVA:
			x.A = r.IntN(8)
		case api.FdVB:
			x.B = r.IntN(8)
		case api.FdVC:
			x.C = r.IntN(8)
		case api.FdCond:
			x.D = r.IntN(16)
		case api.FdLane:
			x.D = r.IntN(3)
		case api.FdExt, api.FdWord, api.FdScale:
			x.D = r.IntN(4)
		case api.FdK:
			x.K = k
		case api.FdI:
			x.I = i
		case api.FdMemK:
			x.B, x.K = r.IntN(16), k
		case api.FdMemI:
			x.B, x.I = r.IntN(16), i
		}
	}
	return x
}

func textOf(t *testing.T, x api.Insn) string {
	t.Helper()
	s, err := isa.Text(x)
	if err != api.OK {
		t.Fatalf("Text of %v: %d", x, err)
	}
	return s
}

func bytesOf(t *testing.T, x api.Insn) []byte {
	t.Helper()
	b, err := isa.Encode(x)
	if err != api.OK {
		t.Fatalf("Encode of %v: %d", x, err)
	}
	return b
}

// many returns n texts, made of their numbers from 0 on.
func many(n int, format string) []string {
	var l []string
	for i := range n {
		l = append(l, strings.ReplaceAll(format, "#", fmt.Sprint(i)))
	}
	return l
}

func reloc(section, off, kind, symbol, add int) api.Reloc {
	return api.Reloc{Section: section, Off: off, Kind: kind, Symbol: symbol, Add: add}
}

func relocs(l [][5]int) []api.Reloc {
	var out []api.Reloc
	for _, x := range l {
		out = append(out, reloc(x[0], x[1], x[2], x[3], x[4]))
	}
	return out
}

func entry(section, off, file, line int) api.Line {
	return api.Line{Section: section, Off: off, File: file, Line: line}
}

func entries(l [][4]int) []api.Line {
	var out []api.Line
	for _, x := range l {
		out = append(out, entry(x[0], x[1], x[2], x[3]))
	}
	return out
}
