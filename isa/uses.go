package isa

import "candling/api"

// UsesOf returns what an instruction uses.
func UsesOf(x api.Insn) (api.Uses, api.Errno) {
	if err := Check(x); err != api.OK {
		return api.Uses{}, err
	}
	var u api.Uses
	for _, kind := range operandsOf(x.Op) {
		addOperand(&u, x, kind)
	}
	addImplied(&u, x.Op)
	u.FlagsIn = readsFlags(x.Op)
	u.FlagsOut = setsFlags(x.Op)
	u.Load = loadedBytes(x.Op)
	u.Store = storedBytes(x.Op)
	u.Jumps = jumps(x.Op)
	return u, api.OK
}

// addOperand adds the registers of an operand of x.
func addOperand(u *api.Uses, x api.Insn, kind int) {
	switch kind {
	case api.FdRA:
		if readsA(x.Op) {
			u.Reads |= 1 << x.A
		}
		if writesA(x.Op) {
			u.Writes |= 1 << x.A
		}
	case api.FdRB, api.FdMemK, api.FdMemI:
		u.Reads |= 1 << x.B
	case api.FdRC:
		u.Reads |= 1 << x.C
	case api.FdVA:
		if x.Op == api.OpVStore || x.Op == api.OpVIn {
			u.VReads |= 1 << x.A
		}
		if x.Op != api.OpVStore {
			u.VWrites |= 1 << x.A
		}
	case api.FdVB:
		u.VReads |= 1 << x.B
	case api.FdVC:
		u.VReads |= 1 << x.C
	}
}

// addImplied adds the registers that an operation uses without an operand.
func addImplied(u *api.Uses, op int) {
	switch op {
	case api.OpPush, api.OpPop, api.OpCall, api.OpCallR, api.OpRet:
		u.Reads |= 1 << api.SP
		u.Writes |= 1 << api.SP
	case api.OpSys:
		u.Reads |= 1<<0 | 1<<1 | 1<<2 | 1<<3
		u.Writes |= 1 << 0
	case api.OpReq:
		u.Reads |= 1<<0 | 1<<1
		u.Writes |= 1 << 0
	}
}

// readsA reports whether an operation with the operand FdRA reads this register.
func readsA(op int) bool {
	switch op {
	case api.OpSwap, api.OpCas, api.OpFadd:
		return true
	}
	return !writesA(op)
}

// writesA reports whether an operation with the operand FdRA writes this register.
func writesA(op int) bool {
	switch op {
	case api.OpStore8, api.OpStore16, api.OpStore32, api.OpStoreI, api.OpPush:
		return false
	}
	return true
}

func readsFlags(op int) bool {
	switch op {
	case api.OpAdc, api.OpSbb, api.OpSel, api.OpSetC, api.OpJcc, api.OpGetF:
		return true
	}
	return false
}

func setsFlags(op int) bool {
	switch op {
	case api.OpAdd, api.OpSub, api.OpAnd, api.OpOr, api.OpXor, api.OpShl, api.OpShr, api.OpSar,
		api.OpAdc, api.OpSbb, api.OpAddK, api.OpNeg, api.OpCmp, api.OpTest, api.OpCmpK,
		api.OpCas, api.OpSetF, api.OpAddI, api.OpCmpI:
		return true
	}
	return false
}

func loadedBytes(op int) int {
	switch op {
	case api.OpLoad8, api.OpLoad8S:
		return 1
	case api.OpLoad16:
		return 2
	case api.OpLoad32, api.OpLoadI, api.OpPop, api.OpRet, api.OpSwap, api.OpCas, api.OpFadd:
		return 4
	case api.OpVLoad:
		return 16
	}
	return 0
}

func storedBytes(op int) int {
	switch op {
	case api.OpStore8:
		return 1
	case api.OpStore16:
		return 2
	case api.OpStore32, api.OpStoreI, api.OpPush, api.OpCall, api.OpCallR, api.OpSwap, api.OpCas, api.OpFadd:
		return 4
	case api.OpVStore:
		return 16
	}
	return 0
}

func jumps(op int) bool {
	switch op {
	case api.OpJmpR, api.OpCallR, api.OpRet, api.OpJmp, api.OpJcc, api.OpCall:
		return true
	}
	return false
}
