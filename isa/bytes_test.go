package isa_test

import (
	"bytes"
	"slices"
	"testing"

	"candling/api"
	"candling/isa"
)

// P1.1: the chapter's examples.
func TestBytesOfExamples(t *testing.T) {
	for _, c := range []struct {
		x api.Insn
		b []byte
	}{
		{api.Insn{Op: api.OpAdd, A: 1, B: 2, C: 3}, []byte{3, 33, 3, 0}},
		{api.Insn{Op: api.OpSet, A: 7, I: 0x12345678}, []byte{64, 7, 0, 0, 120, 86, 52, 18}},
		{api.Insn{Op: api.OpLoad8, A: 2, B: 1, K: -4}, []byte{27, 18, 0, 252}},
		{api.Insn{Op: api.OpSel, A: 15, B: 14, C: 13, D: 12}, []byte{25, 0xef, 0xcd, 0}},
		{api.Insn{Op: api.OpCmpK, B: 3, K: -128}, []byte{24, 0x30, 0, 0x80}},
		{api.Insn{Op: api.OpCmpK, B: 3, K: 127}, []byte{24, 0x30, 0, 0x7f}},
	} {
		if b, err := isa.Encode(c.x); err != api.OK || !bytes.Equal(b, c.b) {
			t.Errorf("Encode of %v: %v, %d", c.x, b, err)
		}
		if x, n, err := isa.Decode(c.b); err != api.OK || n != len(c.b) || x != c.x {
			t.Errorf("Decode of %v: %v, %d, %d", c.b, x, n, err)
		}
	}
	if x, n, err := isa.Decode([]byte{27, 18, 0, 252, 9}); err != api.OK || n != 4 || x != (api.Insn{Op: api.OpLoad8, A: 2, B: 1, K: -4}) {
		t.Errorf("Decode with a byte behind: %v, %d, %d", x, n, err)
	}
	for _, b := range [][]byte{nil, {}, {3, 33, 19, 0}, {62, 0, 0, 0}, {63, 0, 0, 0, 0, 0, 0, 0}, {64, 7, 0, 0, 1}, {0, 0, 0, 0}, {73, 0, 0, 0, 0, 0, 0, 0}, {255, 255, 255, 255, 255, 255, 255, 255}} {
		wantNone(t, b)
	}
}

func wantNone(t *testing.T, b []byte) {
	t.Helper()
	if x, n, err := isa.Decode(b); err != api.ErrInsn || n != 0 || x != (api.Insn{}) {
		t.Errorf("Decode of %v: %v, %d, %d", b, x, n, err)
	}
}

// P1.1: all operations, with the ends of all ranges.
func TestEncodeAndCheck(t *testing.T) {
	for _, o := range operationTable() {
		for _, x := range samples(o) {
			if err := isa.Check(x); err != api.OK {
				t.Fatalf("Check of %v: %d", x, err)
			}
			if b, err := isa.Encode(x); err != api.OK || !bytes.Equal(b, bytesOf(x)) {
				t.Fatalf("Encode of %v: %v, %d", x, b, err)
			}
		}
	}
}

// P1.1: what is no instruction has no bytes, no text, no uses, no number.
func TestNoInstructions(t *testing.T) {
	for _, x := range noInsns() {
		if err := isa.Check(x); err != api.ErrInsn {
			t.Errorf("Check of %v: %d", x, err)
		}
		if b, err := isa.Encode(x); err != api.ErrInsn || len(b) != 0 {
			t.Errorf("Encode of %v: %v, %d", x, b, err)
		}
		if s, err := isa.Text(x); err != api.ErrInsn || s != "" {
			t.Errorf("Text of %v: %q, %d", x, s, err)
		}
		if u, err := isa.UsesOf(x); err != api.ErrInsn || u != (api.Uses{}) {
			t.Errorf("UsesOf of %v: %v, %d", x, u, err)
		}
		if n, err := isa.Rank(x); err != api.ErrInsn || n != 0 {
			t.Errorf("Rank of %v: %d, %d", x, n, err)
		}
	}
}

// P1.1: Decode of all values of each of the first four bytes, and of pairs of the second and the third one.
func TestDecodeOfAllBytes(t *testing.T) {
	for op := range 256 {
		for n := range 256 {
			tail := []byte{0x78, 0x56, 0x34, 0x92}
			checkDecode(t, append([]byte{byte(op), byte(n), 0, 0}, tail...))
			checkDecode(t, append([]byte{byte(op), 0, byte(n), 0}, tail...))
			checkDecode(t, append([]byte{byte(op), 0, 0, byte(n)}, tail...))
			checkDecode(t, append([]byte{byte(op), 0x21, 0, byte(n)}, tail...))
			for third := range 16 {
				checkDecode(t, append([]byte{byte(op), byte(n), byte(third * 17), 0}, tail...))
			}
		}
	}
}

// checkDecode compares Decode of 8 bytes with what the chapter's tables say.
func checkDecode(t *testing.T, b []byte) {
	t.Helper()
	want := api.Insn{Op: int(b[0]), A: int(b[1] & 15), B: int(b[1] >> 4), C: int(b[2] & 15), D: int(b[2] >> 4), K: int(int8(b[3]))}
	size := 4
	if want.Op >= 64 {
		want.I, size = 0x92345678, 8
	}
	if !inLimits(want) {
		wantNone(t, b)
	} else if x, n, err := isa.Decode(b); err != api.OK || n != size || x != want {
		t.Fatalf("Decode of %v: %v, %d, %d", b, x, n, err)
	}
}

// limitsByOp has the limits of each operation's fields, made once.
var limitsByOp = func() map[int][fields]limits {
	m := map[int][fields]limits{}
	for _, o := range operationTable() {
		m[o.op] = limitsOf(o)
	}
	return m
}()

func inLimits(x api.Insn) bool {
	lim, is := limitsByOp[x.Op]
	for f, v := range values(x) {
		is = is && v >= lim[f][0] && v <= lim[f][1]
	}
	return is
}

// P1.2, P1.8.
func TestList(t *testing.T) {
	for _, c := range []struct {
		b    []byte
		want []api.Insn
		at   int
		err  api.Errno
	}{
		{nil, nil, 0, api.OK},
		{[]byte{}, nil, 0, api.OK},
		{[]byte{1, 0, 0, 0, 42, 0, 0, 0}, []api.Insn{{Op: api.OpNop}, {Op: api.OpRet}}, 0, api.OK},
		{[]byte{66, 0, 0, 0, 1, 0, 0, 0, 42, 0, 0, 0}, []api.Insn{{Op: api.OpJmp, I: 1}, {Op: api.OpRet}}, 0, api.OK},
		{[]byte{1, 0, 0, 0, 42, 0, 0, 0, 62}, nil, 8, api.ErrInsn},
		{[]byte{62, 0, 0, 0, 1, 0, 0, 0}, nil, 0, api.ErrInsn},
		{[]byte{1}, nil, 0, api.ErrInsn},
		{[]byte{1, 0, 0, 0, 1, 0, 0}, nil, 4, api.ErrInsn},
		{[]byte{1, 0, 0, 0, 66, 0, 0, 0, 1, 0, 0}, nil, 4, api.ErrInsn},
		{[]byte{66, 0, 0, 0, 1, 0, 0, 0, 0}, nil, 8, api.ErrInsn},
		{[]byte{1, 0, 0, 0, 2, 0, 0, 9, 1, 0, 0, 0, 62, 0, 0, 0}, nil, 4, api.ErrInsn},
	} {
		l, at, err := isa.List(c.b)
		if !slices.Equal(l, c.want) || at != c.at || err != c.err {
			t.Errorf("List of %v: %v, %d, %d", c.b, l, at, err)
		}
	}
}

// P1.8: lists that are laid one behind the other.
func TestListsTogether(t *testing.T) {
	var all []api.Insn
	var b []byte
	for _, o := range operationTable() {
		for i, x := range samples(o) {
			if i%17 == 0 {
				all = append(all, x)
				b = append(b, bytesOf(x)...)
			}
		}
	}
	if l, at, err := isa.List(b); err != api.OK || at != 0 || !slices.Equal(l, all) {
		t.Fatalf("List of %d instructions: %d, %d, %d", len(all), len(l), at, err)
	}
	end := 0
	for i, x := range all {
		first, _, err := isa.List(b[:end])
		if err != api.OK || !slices.Equal(first, all[:i]) {
			t.Fatalf("List of the first %d: %d", i, err)
		}
		second, _, err := isa.List(b[end:])
		if err != api.OK || !slices.Equal(second, all[i:]) {
			t.Fatalf("List behind the first %d: %d", i, err)
		}
		if l, at, err := isa.List(b[:end+3]); err != api.ErrInsn || at != end || len(l) != 0 {
			t.Fatalf("List that is cut behind %d bytes: %d, %d, %d", end+3, len(l), at, err)
		}
		end += len(bytesOf(x))
	}
}

// P1.6: both directions, with anything behind.
func TestBytesAreReadInOneWay(t *testing.T) {
	for _, o := range operationTable() {
		for i, x := range samples(o) {
			b, err := isa.Encode(x)
			if err != api.OK {
				t.Fatalf("Encode of %v: %d", x, err)
			}
			for _, tail := range [][]byte{nil, {0}, {byte(i), 255, 64, 1, 0, 0, 0, 0, 0}} {
				y, n, err := isa.Decode(slices.Concat(b, tail))
				if err != api.OK || n != len(b) || y != x {
					t.Fatalf("Decode of %v and %v: %v, %d, %d", b, tail, y, n, err)
				}
			}
		}
	}
	for _, n := range numbers(300000) {
		b := []byte{byte(n), byte(n >> 8), byte(n >> 16), byte(n >> 24), byte(n >> 32), byte(n >> 40), byte(n >> 48), byte(n >> 56), 7}
		b[0] %= 73
		if n>>60 < 8 {
			b[2], b[3] = b[2]&15, 0
		}
		x, size, err := isa.Decode(b)
		if err == api.ErrInsn {
			continue
		}
		if back, err := isa.Encode(x); err != api.OK || !bytes.Equal(back, b[:size]) {
			t.Fatalf("%v is read as %v, whose bytes are %v, %d", b, x, back, err)
		}
	}
}

// P1.10: each field, used or not.
func TestFieldsThatAreUsedOrNot(t *testing.T) {
	for _, o := range operationTable() {
		lim := limitsOf(o)
		for i, x := range samples(o) {
			if i%5 == 0 {
				checkFields(t, o, lim, x)
			}
		}
	}
}

func checkFields(t *testing.T, o operation, lim [fields]limits, x api.Insn) {
	t.Helper()
	for f := range fields {
		for _, n := range []int{-129, -128, -1, 1, 2, 3, 4, 7, 8, 15, 16, 127, 128} {
			if f == inI && n < 0 {
				continue
			}
			v := values(x)
			v[f] = n
			want := api.OK
			if n < lim[f][0] || n > lim[f][1] {
				want = api.ErrInsn
			}
			if err := isa.Check(insn(o.op, v)); err != want {
				t.Fatalf("Check of %s with %v: %d", o.name, v, err)
			}
		}
	}
}

// P1.12: the first byte tells the size, and all prefixes are too short.
func TestSizes(t *testing.T) {
	for _, o := range operationTable() {
		size := 4
		if o.op >= 64 {
			size = 8
		}
		for i, x := range samples(o) {
			b, err := isa.Encode(x)
			if err != api.OK || len(b) != size || int(b[0]) != o.op {
				t.Fatalf("Encode of %v: %v, %d", x, b, err)
			}
			for n := range size {
				if i%13 == 0 {
					wantNone(t, b[:n:n])
				}
			}
		}
	}
}

// R2: nothing is changed, and results share no memory.
func TestBytesShareNothing(t *testing.T) {
	x := api.Insn{Op: api.OpSet, A: 1, I: 2}
	b, _ := isa.Encode(x)
	clear(b)
	if again, _ := isa.Encode(x); !bytes.Equal(again, bytesOf(x)) {
		t.Errorf("Encode after a change of its result: %v", again)
	}
	given := bytesOf(x)
	isa.Decode(given)
	l, _, _ := isa.List(given)
	if !bytes.Equal(given, bytesOf(x)) {
		t.Errorf("an argument was changed: %v", given)
	}
	clear(given)
	if len(l) != 1 || l[0] != x {
		t.Errorf("List after a change of its argument: %v", l)
	}
}
