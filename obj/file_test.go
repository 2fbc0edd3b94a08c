package obj_test

import (
	"bytes"
	"encoding/binary"
	"hash/crc32"
	"math"
	"slices"
	"testing"

	"candling/api"
	"candling/obj"
)

// field is a field of an object file: a number, or other bytes.
type field struct {
	b        []byte
	isNumber bool
	n, most  int // of a number
}

const anyNumber = math.MaxUint32

func numberField(n, most int) field {
	return field{b: binary.AppendUvarint(nil, uint64(n)), isNumber: true, n: n, most: most}
}

func signedField(n int) field {
	return field{b: binary.AppendVarint(nil, int64(n)), isNumber: true, most: anyNumber}
}

// countedFields are the number of bytes, and these.
func countedFields(b []byte, most int) []field {
	return []field{numberField(len(b), most), {b: b}}
}

// fieldsOf returns the fields of an object's file but for the checksum, as the chapter lists them. The line program is given.
func fieldsOf(o api.Object, program []byte) []field {
	l := []field{{b: []byte("CNDO")}, numberField(len(o.Sections), api.MaxSections)}
	for _, s := range o.Sections {
		l = append(l, countedFields([]byte(s.Name), api.MaxName)...)
		l = append(l, numberField(s.Rights, anyNumber), numberField(s.Align, anyNumber))
		l = append(l, countedFields(s.B, api.MaxObjLen)...)
		l = append(l, numberField(s.Zero, anyNumber))
	}
	l = append(l, numberField(len(o.Symbols), api.MaxSymbols))
	for _, s := range o.Symbols {
		l = append(l, countedFields([]byte(s.Name), api.MaxName)...)
		l = append(l, signedField(s.Section), numberField(int(s.Value), anyNumber), numberField(s.Size, anyNumber), numberField(s.Bind+4*s.Kind, anyNumber))
	}
	l = append(l, numberField(len(o.Relocs), api.MaxRelocs))
	for _, r := range o.Relocs {
		l = append(l, numberField(r.Section, anyNumber), numberField(r.Off, anyNumber), numberField(r.Kind, anyNumber), numberField(r.Symbol, anyNumber), signedField(r.Add))
	}
	l = append(l, numberField(len(o.Files), api.MaxFiles))
	for _, name := range o.Files {
		l = append(l, countedFields([]byte(name), 100)...)
	}
	return append(l, countedFields(program, 100000)...)
}

// programOf returns the line program of a line table.
func programOf(t *testing.T, l []api.Line) []byte {
	t.Helper()
	b, err := obj.Pack(l)
	if err != api.OK {
		t.Fatalf("Pack of %v: %d", l, err)
	}
	return b
}

// sealed joins fields and their checksum.
func sealed(l []field) []byte {
	b := joined(l)
	return binary.LittleEndian.AppendUint32(b, crc32.ChecksumIEEE(b))
}

func joined(l []field) []byte {
	var b []byte
	for _, f := range l {
		b = append(b, f.b...)
	}
	return b
}

func wantRead(t *testing.T, b []byte, want api.Object) {
	t.Helper()
	before := bytes.Clone(b)
	o, at, err := obj.Read(b)
	if err != api.OK || at != 0 || !isEqual(o, want) {
		t.Fatalf("Read of %q: %+v, %d, %d, want %+v", b, o, at, err, want)
	}
	spoil(o)
	if !bytes.Equal(b, before) {
		t.Fatalf("a change of the object has changed the bytes that were read, %q", before)
	}
}

func wantReadError(t *testing.T, b []byte, at int, err api.Errno) {
	t.Helper()
	o, n, e := obj.Read(b)
	if e != err || n != at || !isEqual(o, api.Object{}) {
		t.Fatalf("Read of %d bytes %q: %+v, %d, %d, want the error %d at %d", len(b), b, o, n, e, err, at)
	}
}

// P3.2: checksums.
func TestSum(t *testing.T) {
	if n := obj.Sum([]byte("123456789")); n != 0xCBF43926 {
		t.Errorf("%x", n)
	}
	if n := obj.Sum(nil); n != 0 {
		t.Errorf("of no bytes: %x", n)
	}
	r := random(1)
	for n := range 700 {
		b := randomBytes(r.Uint32, n)
		if got, want := obj.Sum(b), crc32.ChecksumIEEE(b); got != want {
			t.Fatalf("Sum of %v: %x, want %x", b, got, want)
		}
	}
}

func randomBytes(number func() uint32, n int) []byte {
	b := make([]byte, n)
	for i := range b {
		b[i] = byte(number())
	}
	return b
}

// P3.6: sums of exclusive ors.
func TestSumIsLinear(t *testing.T) {
	r := random(2)
	for n := range 300 {
		a, b, c := randomBytes(r.Uint32, n), randomBytes(r.Uint32, n), randomBytes(r.Uint32, n)
		x := make([]byte, n)
		for i := range x {
			x[i] = a[i] ^ b[i] ^ c[i]
		}
		if got, want := obj.Sum(x), obj.Sum(a)^obj.Sum(b)^obj.Sum(c); got != want {
			t.Fatalf("Sum of %v: %x, want %x", x, got, want)
		}
	}
}

// P3.2: the bytes of object files.
func TestBytes(t *testing.T) {
	if b := fileOf(t, api.Object{}); string(b[:9]) != "CNDO\x00\x00\x00\x00\x00" || len(b) != 13 || obj.Sum(b[:9]) != binary.LittleEndian.Uint32(b[9:]) {
		t.Errorf("of the empty object: %q", b)
	}
	small := api.Object{
		Sections: []api.Section{{Name: "a", Rights: 7, Align: 256, B: []byte{9}, Zero: 300}},
		Symbols:  []api.Symbol{symbol("b", -1, 0, 0, 2, 1), symbol("c", -2, 1<<32-1, 0, 0, 2), symbol("d", 0, 128, 127, 1, 1)},
		Relocs:   []api.Reloc{reloc(0, 0, 3, 2, -65)},
		Files:    []string{"f"},
		Lines:    entries([4]int{0, 4, 0, 5}),
	}
	want := "CNDO" + "\x01\x01a\x07\x80\x02\x01\x09\xac\x02" +
		"\x03\x01b\x01\x00\x00\x06" + "\x01c\x03\xff\xff\xff\xff\x0f\x00\x08" + "\x01d\x00\x80\x01\x7f\x05" +
		"\x01\x00\x00\x03\x02\x81\x01" + "\x01\x01f" + "\x01\x59"
	if b := fileOf(t, small); string(b[:len(b)-4]) != want {
		t.Errorf("%q, want %q", b, want)
	}
	for _, c := range harmless() {
		o := changed(c)
		wantFile(t, o)
	}
	for seed := range uint64(1500) {
		wantFile(t, randomObject(random(seed)))
	}
}

// wantFile holds that the file of an object is as the chapter says, and read back.
func wantFile(t *testing.T, o api.Object) {
	t.Helper()
	before := copyOf(o)
	b := fileOf(t, o)
	if want := sealed(fieldsOf(o, programOf(t, o.Lines))); !bytes.Equal(b, want) {
		t.Fatalf("Bytes of %+v: %q, want %q", o, b, want)
	}
	wantRead(t, b, o)
	clear(b)
	if !isEqual(o, before) {
		t.Fatalf("%+v has become %+v", before, o)
	}
}

// P3.5: what is read makes the file again, and the file of what is valid is read.
func TestReadBack(t *testing.T) {
	for seed := range uint64(1500) {
		o := randomObject(random(seed))
		b := fileOf(t, o)
		got, at, err := obj.Read(b)
		if err != api.OK || at != 0 || !obj.Same(got, o) {
			t.Fatalf("%+v is read as %+v, %d, %d", o, got, at, err)
		}
		if again := fileOf(t, got); !bytes.Equal(again, b) {
			t.Fatalf("%q is written again as %q", b, again)
		}
	}
}

// P3.5: what is read of files that were damaged and sealed again makes the same file.
func TestReadBackOfOtherFiles(t *testing.T) {
	read := 0
	for seed := range uint64(6000) {
		r := random(seed)
		b := fileOf(t, randomObject(r))
		b = b[:len(b)-4]
		b[r.IntN(len(b))] ^= byte(1) << r.IntN(8)
		b = binary.LittleEndian.AppendUint32(b, obj.Sum(b))
		o, at, err := obj.Read(b)
		if err != api.OK {
			if !isEqual(o, api.Object{}) || err == api.ErrObject && at != 0 {
				t.Fatalf("Read of %q: %+v, %d, %d", b, o, at, err)
			}
			continue
		}
		read++
		wantValid(t, o)
		if again := fileOf(t, o); at != 0 || !bytes.Equal(again, b) {
			t.Fatalf("%q is written again as %q", b, again)
		}
	}
	if read < 300 {
		t.Errorf("only %d files were read", read)
	}
}

// P3.2: files that end too early.
func TestReadOfBeginnings(t *testing.T) {
	objects := []api.Object{sample(), {}}
	for seed := range uint64(40) {
		objects = append(objects, randomObject(random(seed)))
	}
	for _, o := range objects {
		at := 0
		l := fieldsOf(o, programOf(t, o.Lines))
		whole := sealed(l)
		for _, f := range append(l, field{b: whole[len(whole)-4:]}) {
			for n := range len(f.b) {
				wantReadError(t, whole[:at+n], at, api.ErrForm)
			}
			at += len(f.b)
		}
		for _, more := range []string{"\x00", "CNDO", string(whole)} {
			wantReadError(t, append(bytes.Clone(whole), more...), len(whole), api.ErrForm)
		}
	}
}

// P3.2: numbers that are not written as they should be, or too great.
func TestReadOfNumbers(t *testing.T) {
	for _, o := range []api.Object{sample(), randomObject(random(11)), {}} {
		l := fieldsOf(o, programOf(t, o.Lines))
		at := 0
		for i, f := range l {
			if f.isNumber {
				tryNumbers(t, l, i, at)
			}
			at += len(f.b)
		}
	}
}

// tryNumbers puts others in the place of the number that is a field of a file, at an offset.
func tryNumbers(t *testing.T, l []field, i, at int) {
	t.Helper()
	with := func(b ...byte) []byte {
		c := slices.Clone(l)
		c[i].b = b
		return sealed(c)
	}
	f := l[i]
	longer := bytes.Clone(f.b)
	longer[len(longer)-1] |= 128
	wantReadError(t, with(append(longer, 0)...), at, api.ErrForm)
	wantReadError(t, with(append(longer, 128, 0)...), at, api.ErrForm)
	for _, b := range []string{"\x80\x80\x80\x80\x10", "\xff\xff\xff\xff\xff", "\xff\xff\xff\xff\x7f", "\x80\x80\x80\x80\x80\x01", "\x80\x80\x80\x80\x80\x00", "\xff\xff\xff\xff\xff\xff\xff\xff\xff\x01", "\x80\x00", "\xff\x00", "\xff\x80\x00"} {
		wantReadError(t, with([]byte(b)...), at, api.ErrForm)
	}
	most := binary.AppendUvarint(nil, uint64(f.most))
	if _, n, err := obj.Read(with(most...)); err == api.ErrForm && n == at {
		t.Fatalf("the number %d at %d of %q cannot be read", f.most, at, joined(l))
	}
	if f.most < anyNumber {
		wantReadError(t, with(binary.AppendUvarint(nil, uint64(f.most)+1)...), at, api.ErrForm)
		wantReadError(t, with(binary.AppendUvarint(nil, anyNumber)...), at, api.ErrForm)
	}
}

// P3.2: which error is reported first.
func TestOrderOfReadErrors(t *testing.T) {
	for _, mark := range []string{"cNDO", "CNDo", "CNDP", "\x00NDO", "CND", "CN", "C", ""} {
		wantReadError(t, []byte(mark), 0, api.ErrForm)
		wantReadError(t, append([]byte(mark), fileOf(t, sample())[4:]...), 0, api.ErrForm)
	}
	o := sample()
	bad := sample()
	bad.Symbols[1].Value = 17
	program := programOf(t, o.Lines)
	wrong := append(bytes.Clone(program), 1, 0)
	for _, object := range []api.Object{o, bad} {
		for _, p := range [][]byte{program, wrong} {
			l := fieldsOf(object, p)
			end := len(joined(l))
			b := sealed(l)
			for i := range 4 {
				c := bytes.Clone(b)
				c[end+i] ^= 1
				wantReadError(t, c, end, api.ErrSum)
				wantReadError(t, append(c, 0), len(c), api.ErrForm)
				wantReadError(t, c[:end+3], end, api.ErrForm)
			}
		}
		l := fieldsOf(object, wrong)
		wantReadError(t, sealed(l), len(joined(l))-len(wrong), api.ErrProgram)
	}
	wantReadError(t, sealed(fieldsOf(bad, program)), 0, api.ErrObject)
}

// P3.2: line programs of files have to be those that Pack makes.
func TestReadOfPrograms(t *testing.T) {
	o := sample()
	o.Lines = entries([4]int{0, 0, 0, 1}, [4]int{0, 4, 1, 1})
	for _, c := range []struct {
		program string
		is      bool
	}{
		{"\x45\x03\x01\x54", true},
		{"\x45\x03\x01\x54\x01\x00", false},
		{"\x02\x02\x05\x03\x01\x54", false},
		{"\x45\x01\x04\x03\x01\x05", false},
		{"\x03\x00\x45\x03\x01\x54", false},
		{"\x45\x03\x01\x54\x00", false},
		{"\x45\x03\x01\x54\x44", false},
		{"\x45\x03\x01\x54\x01", false},
		{"\x45\x03\x81\x00\x54", false},
	} {
		l := fieldsOf(o, []byte(c.program))
		if c.is {
			wantRead(t, sealed(l), o)
		} else {
			wantReadError(t, sealed(l), len(joined(l))-len(c.program), api.ErrProgram)
		}
	}
	for _, program := range []string{"\x45", "\x03\x01\x45", "\x04\x0f\x44"} {
		wantReadError(t, sealed(fieldsOf(api.Object{}, []byte(program))), 0, api.ErrObject)
	}
	wantReadError(t, sealed(fieldsOf(api.Object{}, []byte("\x05"))), 9, api.ErrProgram)
	wantReadError(t, sealed(fieldsOf(api.Object{}, make([]byte, 100000))), 11, api.ErrProgram)
	wantReadError(t, sealed(fieldsOf(api.Object{}, make([]byte, 100001))), 8, api.ErrForm)
}

// P3.2: files of objects that are not valid.
func TestReadOfInvalidObjects(t *testing.T) {
	tried := 0
	for _, c := range harmful() {
		o := changed(c)
		program, err := obj.Pack(o.Lines)
		if err != api.OK || !isWritable(o) {
			continue
		}
		tried++
		l := fieldsOf(o, program)
		at := 0
		want, where := api.ErrObject, 0
		for _, f := range l {
			if f.isNumber && f.n > f.most {
				want, where = api.ErrForm, at
				break
			}
			at += len(f.b)
		}
		wantReadError(t, sealed(l), where, want)
	}
	if tried < 80 {
		t.Errorf("only %d files", tried)
	}
}

// isWritable reports whether a file has room for all numbers of an object.
func isWritable(o api.Object) bool {
	least, most := 0, 0
	isSigned := true
	for _, s := range o.Sections {
		least, most = min(least, s.Rights, s.Align, s.Zero), max(most, s.Rights, s.Align, s.Zero)
	}
	for _, s := range o.Symbols {
		least, most = min(least, s.Size, s.Bind, s.Kind), max(most, s.Size, s.Bind, 4*min(s.Kind, 1<<32))
		isSigned = isSigned && s.Section == int(int32(s.Section))
	}
	for _, r := range o.Relocs {
		least, most = min(least, r.Section, r.Off, r.Kind, r.Symbol), max(most, r.Section, r.Off, r.Kind, r.Symbol)
		isSigned = isSigned && r.Add == int(int32(r.Add))
	}
	return least == 0 && most <= anyNumber && isSigned
}

// P3.6: no damage of up to four adjacent bytes goes unnoticed, and none at the end.
func TestDamage(t *testing.T) {
	for seed := range uint64(60) {
		r := random(seed)
		b := fileOf(t, randomObject(r))
		for at := range b {
			size := 1 + r.IntN(4)
			c := bytes.Clone(b)
			for i := at; i < min(at+size, len(b)); i++ {
				c[i] ^= byte(r.Uint32())
			}
			if bytes.Equal(b, c) {
				continue
			}
			if o, _, err := obj.Read(c); err == api.OK {
				t.Fatalf("%q, made of %q, is read as %+v", c, b, o)
			}
		}
		for n := range b {
			if _, _, err := obj.Read(b[:n]); err == api.OK {
				t.Fatalf("the first %d bytes of %q are read", n, b)
			}
		}
		for n := 1; n < 20; n++ {
			if o, _, err := obj.Read(append(bytes.Clone(b), randomBytes(r.Uint32, n)...)); err == api.OK {
				t.Fatalf("%q with bytes behind it is read as %+v", b, o)
			}
		}
	}
}

// P3.6: any bit of a small file.
func TestDamageOfEachBit(t *testing.T) {
	b := fileOf(t, sample())
	for i := range 8 * len(b) {
		c := bytes.Clone(b)
		c[i/8] ^= 1 << (i % 8)
		if _, _, err := obj.Read(c); err == api.OK {
			t.Errorf("bit %d", i)
		}
	}
}

// P3.2: bytes of all kinds are read without a panic.
func TestReadOfAnything(t *testing.T) {
	for seed := range uint64(3000) {
		r := random(seed)
		b := randomBytes(r.Uint32, r.IntN(200))
		if r.IntN(2) == 0 {
			b = append([]byte("CNDO\x01\x01a"), b...)
		}
		o, at, err := obj.Read(b)
		if err != api.ErrForm || at < 0 || at > len(b) || !isEqual(o, api.Object{}) {
			t.Fatalf("Read of %q: %+v, %d, %d", b, o, at, err)
		}
	}
}
