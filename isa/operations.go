package isa

import (
	"slices"

	"candling/api"
)

// Name returns the mnemonic of an operation.
func Name(op int) (string, bool) {
	if !isOperation(op) {
		return "", false
	}
	return mnemonics()[op], true
}

// Op returns the operation with a mnemonic.
func Op(name string) (int, bool) {
	names := mnemonics()
	for op := range operations {
		if names[op] == name {
			return op, true
		}
	}
	return 0, false
}

// Fields returns the operands of an operation.
func Fields(op int) ([]int, bool) {
	if !isOperation(op) {
		return nil, false
	}
	k := operandsOf(op)
	return slices.Clone(k.list()), true
}

func isOperation(op int) bool {
	return op >= api.OpNop && op <= api.OpVMask || op >= api.OpLong && op <= api.MaxOp
}

// operations goes through all operations, increasing.
func operations(yield func(int) bool) {
	for op := range api.MaxOp + 1 {
		if isOperation(op) && !yield(op) {
			return
		}
	}
}

// mnemonics returns the mnemonics by operation; numbers that are no operation have none.
func mnemonics() [api.MaxOp + 1]string {
	return [api.MaxOp + 1]string{
		api.OpNop: "nop", api.OpMov: "mov", api.OpAdd: "add", api.OpSub: "sub",
		api.OpAnd: "and", api.OpOr: "or", api.OpXor: "xor", api.OpShl: "shl",
		api.OpShr: "shr", api.OpSar: "sar", api.OpMul: "mul", api.OpMulH: "mulh",
		api.OpDiv: "div", api.OpRem: "rem", api.OpDivS: "divs", api.OpAdc: "adc",
		api.OpSbb: "sbb", api.OpAddK: "addk", api.OpNeg: "neg", api.OpNot: "not",
		api.OpExt: "ext", api.OpCmp: "cmp", api.OpTest: "test", api.OpCmpK: "cmpk",
		api.OpSel: "sel", api.OpSetC: "setc", api.OpLoad8: "load8", api.OpLoad16: "load16",
		api.OpLoad32: "load32", api.OpLoad8S: "load8s", api.OpStore8: "store8", api.OpStore16: "store16",
		api.OpStore32: "store32", api.OpPush: "push", api.OpPop: "pop", api.OpSwap: "swap",
		api.OpCas: "cas", api.OpFadd: "fadd", api.OpFence: "fence", api.OpJmpR: "jmpr",
		api.OpCallR: "callr", api.OpRet: "ret", api.OpSys: "sys", api.OpReq: "req",
		api.OpBrk: "brk", api.OpGetF: "getf", api.OpSetF: "setf", api.OpVLoad: "vload",
		api.OpVStore: "vstore", api.OpVMov: "vmov", api.OpVAdd: "vadd", api.OpVSub: "vsub",
		api.OpVEq: "veq", api.OpVAnd: "vand", api.OpVOr: "vor", api.OpVXor: "vxor",
		api.OpVShuf: "vshuf", api.OpVIn: "vin", api.OpVOut: "vout", api.OpVSplat: "vsplat",
		api.OpVMask: "vmask", api.OpSet: "set", api.OpAddI: "addi", api.OpJmp: "jmp",
		api.OpJcc: "jcc", api.OpCall: "call", api.OpLoadI: "loadi", api.OpStoreI: "storei",
		api.OpLea: "lea", api.OpCmpI: "cmpi",
	}
}

// kinds are the kinds of an operation's operands, in order, with zeros behind the last one. An array, so that decoding needs no new memory.
type kinds [5]int

// list returns the kinds without the zeros behind them.
func (k *kinds) list() []int {
	n := slices.Index(k[:], 0)
	if n < 0 {
		n = len(k)
	}
	return k[:n]
}

func operandsOf(op int) kinds {
	switch {
	case op >= api.OpLong:
		return longOperands(op)
	case op >= api.OpVLoad:
		return vectorOperands(op)
	case op >= api.OpLoad8:
		return memoryOperands(op)
	}
	return wordOperands(op)
}

// wordOperands has the operations from OpNop to OpSetC.
func wordOperands(op int) kinds {
	switch op {
	case api.OpNop:
		return kinds{}
	case api.OpMov, api.OpNeg, api.OpNot:
		return kinds{api.FdRA, api.FdRB}
	case api.OpAddK:
		return kinds{api.FdRA, api.FdRB, api.FdK}
	case api.OpExt:
		return kinds{api.FdRA, api.FdRB, api.FdExt}
	case api.OpCmp, api.OpTest:
		return kinds{api.FdRB, api.FdRC}
	case api.OpCmpK:
		return kinds{api.FdRB, api.FdK}
	case api.OpSel:
		return kinds{api.FdRA, api.FdRB, api.FdRC, api.FdCond}
	case api.OpSetC:
		return kinds{api.FdRA, api.FdCond}
	}
	return kinds{api.FdRA, api.FdRB, api.FdRC}
}

// memoryOperands has the operations from OpLoad8 to OpSetF.
func memoryOperands(op int) kinds {
	switch op {
	case api.OpFence, api.OpRet, api.OpSys, api.OpReq, api.OpBrk:
		return kinds{}
	case api.OpPush, api.OpPop, api.OpGetF:
		return kinds{api.FdRA}
	case api.OpJmpR, api.OpCallR, api.OpSetF:
		return kinds{api.FdRB}
	case api.OpCas:
		return kinds{api.FdRA, api.FdRC, api.FdMemK}
	}
	return kinds{api.FdRA, api.FdMemK}
}

// vectorOperands has the operations from OpVLoad to OpVMask.
func vectorOperands(op int) kinds {
	switch op {
	case api.OpVLoad, api.OpVStore:
		return kinds{api.FdVA, api.FdMemK}
	case api.OpVMov:
		return kinds{api.FdVA, api.FdVB}
	case api.OpVAdd, api.OpVSub, api.OpVEq:
		return kinds{api.FdVA, api.FdVB, api.FdVC, api.FdLane}
	case api.OpVIn:
		return kinds{api.FdVA, api.FdRB, api.FdWord}
	case api.OpVOut:
		return kinds{api.FdRA, api.FdVB, api.FdWord}
	case api.OpVSplat:
		return kinds{api.FdVA, api.FdRB}
	case api.OpVMask:
		return kinds{api.FdRA, api.FdVB}
	}
	return kinds{api.FdVA, api.FdVB, api.FdVC}
}

// longOperands has the operations from OpSet to OpCmpI.
func longOperands(op int) kinds {
	switch op {
	case api.OpSet:
		return kinds{api.FdRA, api.FdI}
	case api.OpAddI:
		return kinds{api.FdRA, api.FdRB, api.FdI}
	case api.OpJcc:
		return kinds{api.FdCond, api.FdI}
	case api.OpLoadI, api.OpStoreI:
		return kinds{api.FdRA, api.FdMemI}
	case api.OpLea:
		return kinds{api.FdRA, api.FdRB, api.FdRC, api.FdScale, api.FdI}
	case api.OpCmpI:
		return kinds{api.FdRB, api.FdI}
	}
	return kinds{api.FdI}
}
