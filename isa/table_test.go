package isa_test

import (
	"fmt"
	"math"
	"slices"
	"strconv"
	"strings"
	"testing"

	"candling/api"
)

// operation is a row of the chapter's tables, written down once more for the tests: the operands, and what an instruction uses (r: a general register is read, w: written, V and W: vector registers; the letters A, B, C are fields, digits and S are registers; F and G: flags are read, set; l and s: bytes loaded, stored; J: it jumps).
type operation struct {
	op       int
	name     string
	operands string
	uses     string
}

func operationTable() []operation {
	return slices.Concat(shortTable(), vectorTable(), longTable())
}

func shortTable() []operation {
	l := []operation{
		{1, "nop", "", ""},
		{2, "mov", "RA RB", "rB wA"},
		{18, "addk", "RA RB K", "rB wA G"},
		{19, "neg", "RA RB", "rB wA G"},
		{20, "not", "RA RB", "rB wA"},
		{21, "ext", "RA RB Ext", "rB wA"},
		{22, "cmp", "RB RC", "rB rC G"},
		{23, "test", "RB RC", "rB rC G"},
		{24, "cmpk", "RB K", "rB G"},
		{25, "sel", "RA RB RC Cond", "rB rC wA F"},
		{26, "setc", "RA Cond", "wA F"},
		{27, "load8", "RA MemK", "rB wA l1"},
		{28, "load16", "RA MemK", "rB wA l2"},
		{29, "load32", "RA MemK", "rB wA l4"},
		{30, "load8s", "RA MemK", "rB wA l1"},
		{31, "store8", "RA MemK", "rA rB s1"},
		{32, "store16", "RA MemK", "rA rB s2"},
		{33, "store32", "RA MemK", "rA rB s4"},
		{34, "push", "RA", "rA rS wS s4"},
		{35, "pop", "RA", "rS wA wS l4"},
		{36, "swap", "RA MemK", "rA rB wA l4 s4"},
		{37, "cas", "RA RC MemK", "rA rB rC wA G l4 s4"},
		{38, "fadd", "RA MemK", "rA rB wA l4 s4"},
		{39, "fence", "", ""},
		{40, "jmpr", "RB", "rB J"},
		{41, "callr", "RB", "rB rS wS s4 J"},
		{42, "ret", "", "rS wS l4 J"},
		{43, "sys", "", "r0 r1 r2 r3 w0"},
		{44, "req", "", "r0 r1 w0"},
		{45, "brk", "", ""},
		{46, "getf", "RA", "wA F"},
		{47, "setf", "RB", "rB G"},
	}
	for i, name := range strings.Fields("add sub and or xor shl shr sar mul mulh div rem divs adc sbb") {
		o := operation{3 + i, name, "RA RB RC", "rB rC wA"}
		switch {
		case i < 8:
			o.uses += " G"
		case i >= 13:
			o.uses += " F G"
		}
		l = append(l, o)
	}
	slices.SortFunc(l, func(a, b operation) int { return a.op - b.op })
	return l
}

func vectorTable() []operation {
	return []operation{
		{48, "vload", "VA MemK", "rB WA l16"},
		{49, "vstore", "VA MemK", "rB VA s16"},
		{50, "vmov", "VA VB", "VB WA"},
		{51, "vadd", "VA VB VC Lane", "VB VC WA"},
		{52, "vsub", "VA VB VC Lane", "VB VC WA"},
		{53, "veq", "VA VB VC Lane", "VB VC WA"},
		{54, "vand", "VA VB VC", "VB VC WA"},
		{55, "vor", "VA VB VC", "VB VC WA"},
		{56, "vxor", "VA VB VC", "VB VC WA"},
		{57, "vshuf", "VA VB VC", "VB VC WA"},
		{58, "vin", "VA RB Word", "rB VA WA"},
		{59, "vout", "RA VB Word", "VB wA"},
		{60, "vsplat", "VA RB", "rB WA"},
		{61, "vmask", "RA VB", "VB wA"},
	}
}

func longTable() []operation {
	return []operation{
		{64, "set", "RA I", "wA"},
		{65, "addi", "RA RB I", "rB wA G"},
		{66, "jmp", "I", "J"},
		{67, "jcc", "Cond I", "F J"},
		{68, "call", "I", "rS wS s4 J"},
		{69, "loadi", "RA MemI", "rB wA l4"},
		{70, "storei", "RA MemI", "rA rB s4"},
		{71, "lea", "RA RB RC Scale I", "rB rC wA"},
		{72, "cmpi", "RB I", "rB G"},
	}
}

// The fields besides Op, in the order of the chapter.
const (
	inA = iota
	inB
	inC
	inD
	inK
	inI
	fields
)

// limits is the least and the greatest value of a field.
type limits [2]int

// limitsOf returns those of all fields of an operation.
func limitsOf(o operation) [fields]limits {
	var l [fields]limits
	for _, s := range strings.Fields(o.operands) {
		switch s {
		case "RA", "RB", "RC":
			l[s[1]-'A'] = limits{0, 15}
		case "VA", "VB", "VC":
			l[s[1]-'A'] = limits{0, 7}
		case "Cond":
			l[inD] = limits{0, 15}
		case "Lane":
			l[inD] = limits{0, 2}
		case "Ext", "Word", "Scale":
			l[inD] = limits{0, 3}
		case "K":
			l[inK] = limits{-128, 127}
		case "I":
			l[inI] = limits{0, math.MaxUint32}
		case "MemK":
			l[inB], l[inK] = limits{0, 15}, limits{-128, 127}
		case "MemI":
			l[inB], l[inI] = limits{0, 15}, limits{0, math.MaxUint32}
		default:
			panic("no operand: " + s)
		}
	}
	return l
}

func insn(op int, v [fields]int) api.Insn {
	return api.Insn{Op: op, A: v[inA], B: v[inB], C: v[inC], D: v[inD], K: v[inK], I: uint32(v[inI])}
}

func values(x api.Insn) [fields]int {
	return [fields]int{x.A, x.B, x.C, x.D, x.K, int(x.I)}
}

// samples returns instructions of an operation: all combinations of some values of its fields, the least and the greatest ones among them.
func samples(o operation) []api.Insn {
	lim := limitsOf(o)
	l := [][fields]int{{}}
	for f := range fields {
		var longer [][fields]int
		for _, v := range l {
			for _, n := range someOf(f, lim[f]) {
				v[f] = n
				longer = append(longer, v)
			}
		}
		l = longer
	}
	var out []api.Insn
	for _, v := range l {
		out = append(out, insn(o.op, v))
	}
	return out
}

func someOf(field int, l limits) []int {
	if l == (limits{}) {
		return []int{0}
	}
	var out []int
	switch field {
	case inD:
		for n := l[0]; n <= l[1]; n++ {
			out = append(out, n)
		}
		return out
	case inK:
		return []int{-128, -100, -1, 0, 1, 9, 127}
	case inI:
		return []int{0, 1, 10, 0xabcdef, 0x12345678, 0x80000000, math.MaxUint32}
	}
	return []int{0, 1, l[1] - 2, l[1]}
}

// bytesOf writes the bytes of an instruction.
func bytesOf(x api.Insn) []byte {
	b := []byte{byte(x.Op), byte(x.A | x.B<<4), byte(x.C | x.D<<4), byte((x.K + 256) % 256)}
	if x.Op >= 64 {
		for i := range 4 {
			b = append(b, byte(x.I>>(8*i)))
		}
	}
	return b
}

// textOf writes the text of an instruction.
func textOf(o operation, x api.Insn) string {
	var l []string
	for _, s := range strings.Fields(o.operands) {
		l = append(l, operandText(s, x))
	}
	if len(l) == 0 {
		return o.name
	}
	return o.name + " " + strings.Join(l, ", ")
}

func operandText(s string, x api.Insn) string {
	switch s {
	case "RA", "RB", "RC", "VA", "VB", "VC":
		return fmt.Sprintf("%c%d", s[0]-'A'+'a', values(x)[s[1]-'A'])
	case "Cond":
		return strings.Fields("e ne b ae s ns o no be a l ge le g al nv")[x.D]
	case "Ext":
		return strings.Fields("z8 s8 z16 s16")[x.D]
	case "Lane":
		return strings.Fields("8 16 32")[x.D]
	case "Word", "Scale":
		return strconv.Itoa(x.D)
	case "K":
		return strconv.Itoa(x.K)
	case "I":
		return fmt.Sprintf("0x%x", x.I)
	case "MemI":
		return fmt.Sprintf("[r%d+0x%x]", x.B, x.I)
	}
	if x.K == 0 {
		return fmt.Sprintf("[r%d]", x.B)
	}
	return fmt.Sprintf("[r%d%+d]", x.B, x.K)
}

// usesOf reads what an operation uses out of its row.
func usesOf(o operation, x api.Insn) api.Uses {
	var u api.Uses
	for _, s := range strings.Fields(o.uses) {
		switch s[0] {
		case 'r':
			u.Reads |= 1 << registerOf(s[1], x)
		case 'w':
			u.Writes |= 1 << registerOf(s[1], x)
		case 'V':
			u.VReads |= 1 << registerOf(s[1], x)
		case 'W':
			u.VWrites |= 1 << registerOf(s[1], x)
		case 'F':
			u.FlagsIn = true
		case 'G':
			u.FlagsOut = true
		case 'l':
			u.Load, _ = strconv.Atoi(s[1:])
		case 's':
			u.Store, _ = strconv.Atoi(s[1:])
		case 'J':
			u.Jumps = true
		}
	}
	return u
}

func registerOf(c byte, x api.Insn) int {
	switch c {
	case 'A', 'B', 'C':
		return values(x)[c-'A']
	case 'S':
		return 15
	}
	return int(c - '0')
}

// numbers returns numbers that look random, the same ones each time.
func numbers(n int) []uint64 {
	var l []uint64
	s := uint64(1)
	for range n {
		s = s*6364136223846793005 + 1442695040888963407
		l = append(l, s^s>>29)
	}
	return l
}

// noInsns returns values that are no instructions.
func noInsns() []api.Insn {
	l := []api.Insn{{}, {A: 1}}
	for _, op := range []int{-1, 62, 63, 73, 127, 128, 255, 256, 257, 320, 1 << 32, 1<<32 + 1, math.MinInt, math.MaxInt} {
		l = append(l, api.Insn{Op: op})
	}
	for _, o := range operationTable() {
		for f, lim := range limitsOf(o) {
			if f == inI && lim[1] > 0 {
				continue
			}
			for _, n := range []int{lim[0] - 1, lim[1] + 1, lim[1] + 256, math.MinInt, math.MaxInt, 1 << 32, -1 << 32} {
				if f == inI && uint32(n) == 0 {
					continue
				}
				var v [fields]int
				v[f] = n
				l = append(l, insn(o.op, v))
			}
		}
	}
	return l
}

func TestTableIsWhole(t *testing.T) {
	want := 1
	for _, o := range operationTable() {
		if want == 62 {
			want = 64
		}
		if o.op != want {
			t.Fatalf("row of %d where that of %d should be", o.op, want)
		}
		want++
	}
	if want != 73 {
		t.Fatalf("the last row is that of %d", want-1)
	}
}
