package isa

import (
	"slices"
	"strconv"
	"strings"

	"candling/api"
)

// Text returns the text of an instruction.
func Text(x api.Insn) (string, api.Errno) {
	if err := Check(x); err != api.OK {
		return "", err
	}
	k := operandsOf(x.Op)
	var l []string
	write := writers()
	for _, kind := range k.list() {
		l = append(l, write[kind](x))
	}
	name := mnemonics()[x.Op]
	if len(l) == 0 {
		return name, api.OK
	}
	return name + " " + strings.Join(l, ", "), api.OK
}

// Parse returns the instruction with a text.
func Parse(s string) (x api.Insn, err api.Errno) {
	defer func() {
		if recover() != nil {
			x, err = api.Insn{}, api.ErrForm
		}
	}()
	return readInsn(s), api.OK
}

// malformed is what readers panic with if a text is not of the form that they read.
type malformed struct{}

func must(ok bool) {
	if !ok {
		panic(malformed{})
	}
}

func readInsn(s string) api.Insn {
	name, rest, blank := strings.Cut(s, " ")
	op, found := Op(name)
	must(found)
	k := operandsOf(op)
	wanted := k.list()
	var texts []string
	if blank {
		texts = strings.SplitN(rest, ", ", len(wanted)+1)
	}
	must(len(texts) == len(wanted))
	x := api.Insn{Op: op}
	read := readers()
	for i, kind := range wanted {
		read[kind](texts[i], &x)
	}
	return x
}

func conditionNames() [16]string {
	return [16]string{"e", "ne", "b", "ae", "s", "ns", "o", "no", "be", "a", "l", "ge", "le", "g", "al", "nv"}
}

func extensionNames() [4]string { return [4]string{"z8", "s8", "z16", "s16"} }

func laneNames() [3]string { return [3]string{"8", "16", "32"} }

// writers returns, by the kind of an operand, what writes it.
func writers() map[int]func(api.Insn) string {
	number := func(x api.Insn) string { return strconv.Itoa(x.D) }
	return map[int]func(api.Insn) string{
		api.FdRA:    func(x api.Insn) string { return "r" + strconv.Itoa(x.A) },
		api.FdRB:    func(x api.Insn) string { return "r" + strconv.Itoa(x.B) },
		api.FdRC:    func(x api.Insn) string { return "r" + strconv.Itoa(x.C) },
		api.FdVA:    func(x api.Insn) string { return "v" + strconv.Itoa(x.A) },
		api.FdVB:    func(x api.Insn) string { return "v" + strconv.Itoa(x.B) },
		api.FdVC:    func(x api.Insn) string { return "v" + strconv.Itoa(x.C) },
		api.FdCond:  func(x api.Insn) string { return conditionNames()[x.D] },
		api.FdExt:   func(x api.Insn) string { return extensionNames()[x.D] },
		api.FdLane:  func(x api.Insn) string { return laneNames()[x.D] },
		api.FdWord:  number,
		api.FdScale: number,
		api.FdK:     func(x api.Insn) string { return strconv.Itoa(x.K) },
		api.FdI:     func(x api.Insn) string { return hexText(x.I) },
		api.FdMemK:  memKText,
		api.FdMemI:  func(x api.Insn) string { return "[r" + strconv.Itoa(x.B) + "+" + hexText(x.I) + "]" },
	}
}

func hexText(n uint32) string { return "0x" + strconv.FormatUint(uint64(n), 16) }

func memKText(x api.Insn) string {
	s := "[r" + strconv.Itoa(x.B)
	switch {
	case x.K > 0:
		s += "+" + strconv.Itoa(x.K)
	case x.K < 0:
		s += "-" + strconv.Itoa(-x.K)
	}
	return s + "]"
}

// readers returns, by the kind of an operand, what reads the whole of its text and sets its fields.
func readers() map[int]func(string, *api.Insn) {
	number := func(s string, x *api.Insn) { x.D = readNumber(s, 0, 3) }
	return map[int]func(string, *api.Insn){
		api.FdRA: func(s string, x *api.Insn) { x.A = readNumber(readPrefix(s, "r"), 0, 15) },
		api.FdRB: func(s string, x *api.Insn) { x.B = readNumber(readPrefix(s, "r"), 0, 15) },
		api.FdRC: func(s string, x *api.Insn) { x.C = readNumber(readPrefix(s, "r"), 0, 15) },
		api.FdVA: func(s string, x *api.Insn) { x.A = readNumber(readPrefix(s, "v"), 0, 7) },
		api.FdVB: func(s string, x *api.Insn) { x.B = readNumber(readPrefix(s, "v"), 0, 7) },
		api.FdVC: func(s string, x *api.Insn) { x.C = readNumber(readPrefix(s, "v"), 0, 7) },
		api.FdCond: func(s string, x *api.Insn) {
			names := conditionNames()
			x.D = readName(s, names[:])
		},
		api.FdExt: func(s string, x *api.Insn) {
			names := extensionNames()
			x.D = readName(s, names[:])
		},
		api.FdLane: func(s string, x *api.Insn) {
			names := laneNames()
			x.D = readName(s, names[:])
		},
		api.FdWord:  number,
		api.FdScale: number,
		api.FdK:     func(s string, x *api.Insn) { x.K = readNumber(s, -128, 127) },
		api.FdI:     func(s string, x *api.Insn) { x.I = readHex(s) },
		api.FdMemK:  readMemK,
		api.FdMemI:  readMemI,
	}
}

func readPrefix(s, prefix string) string {
	rest, found := strings.CutPrefix(s, prefix)
	must(found)
	return rest
}

// readNumber accepts decimal notation alone: strconv reads more (a plus sign, leading zeros), so what it has read is written again and compared.
func readNumber(s string, least, most int) int {
	n, err := strconv.Atoi(s)
	must(err == nil && strconv.Itoa(n) == s && n >= least && n <= most)
	return n
}

func readHex(s string) uint32 {
	n, err := strconv.ParseUint(readPrefix(s, "0x"), 16, 32)
	must(err == nil && hexText(uint32(n)) == s)
	return uint32(n)
}

func readName(s string, names []string) int {
	i := slices.Index(names, s)
	must(i >= 0)
	return i
}

// readBrackets returns what stands between the register's letter and the closing bracket.
func readBrackets(s string) string {
	rest, found := strings.CutSuffix(readPrefix(s, "[r"), "]")
	must(found)
	return rest
}

func readMemK(s string, x *api.Insn) {
	s = readBrackets(s)
	sign := strings.IndexAny(s, "+-")
	if sign < 0 {
		x.B = readNumber(s, 0, 15)
		return
	}
	x.B = readNumber(s[:sign], 0, 15)
	if s[sign] == '+' {
		x.K = readNumber(s[sign+1:], 1, 127)
	} else {
		x.K = -readNumber(s[sign+1:], 1, 128)
	}
}

func readMemI(s string, x *api.Insn) {
	register, offset, found := strings.Cut(readBrackets(s), "+")
	must(found)
	x.B = readNumber(register, 0, 15)
	x.I = readHex(offset)
}
