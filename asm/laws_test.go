package asm_test

import (
	"bytes"
	"fmt"
	"math"
	"math/rand/v2"
	"slices"
	"strconv"
	"strings"
	"testing"

	"candling/api"
	"candling/asm"
)

// full is the style of programs that have everything.
func full() style { return style{align: true, reserve: true, loc: true} }

// wantReadBack holds that an object's source text is assembled to the object.
func wantReadBack(t *testing.T, o api.Object) {
	t.Helper()
	s, err := asm.Source(o)
	if err == api.ErrLimit && s == "" {
		return
	}
	if err != api.OK {
		t.Fatalf("Source of %+v: %d", o, err)
	}
	p, line, err := asm.Assemble(s, "")
	if err != api.OK || line != 0 || !same(o, p) {
		t.Fatalf("%+v is written as\n%s\nand read as %+v, %d in line %d", o, cut(s), p, err, line)
	}
}

// P2.4, P2.11: what Assemble returns.
func TestReadBackOfPrograms(t *testing.T) {
	for seed := range uint64(600) {
		p := newProgram(random(seed), full())
		for _, file := range []string{"", "f"} {
			o := assembled(t, p.plain(), file)
			wantInLimits(t, o)
			wantReadBack(t, o)
		}
	}
}

// P2.4: objects that no text was made for.
func TestReadBackOfObjects(t *testing.T) {
	for seed := range uint64(3000) {
		o := randomObject(random(seed))
		s, err := asm.Source(o)
		if err != api.OK {
			t.Fatalf("Source of %+v: %q, %d", o, s, err)
		}
		wantReadBack(t, o)
	}
}

// randomObject returns a valid object that has a source text.
func randomObject(r *rand.Rand) api.Object {
	var o api.Object
	for i := range r.IntN(4) {
		o.Sections = append(o.Sections, randomSection(r, i))
	}
	for i := range 1 + r.IntN(6) {
		o.Symbols = append(o.Symbols, randomSymbol(r, o, "n"+strconv.Itoa(i)))
	}
	for i := range r.IntN(3) {
		o.Files = append(o.Files, "f"+strconv.Itoa(i))
	}
	for i := range o.Sections {
		addRelocs(r, &o, i)
	}
	for i := range o.Sections {
		addLines(r, &o, i)
	}
	for i, s := range o.Symbols {
		if s.Section >= 0 && isInner(o, s.Section, int(s.Value)) {
			o.Symbols[i].Value, o.Symbols[i].Size = 0, 0
		}
	}
	return o
}

func randomSection(r *rand.Rand, i int) api.Section {
	s := api.Section{Name: "s" + strconv.Itoa(i), Rights: 1 + r.IntN(7), Align: 1 << r.IntN(9)}
	for range r.IntN(10) {
		x := randomInsn(r, pick(r, allOps()...))
		b := []byte{byte(x.Op), byte(x.A + 16*x.B), byte(x.C + 16*x.D), byte(x.K), byte(x.I), byte(x.I >> 8), 0, 0}
		s.B = append(s.B, b[:pick(r, 4, 4, 8, 8, 8, 1, 3, 7)]...)
	}
	if r.IntN(2) == 0 {
		s.Zero = r.IntN(20)
	}
	return s
}

func randomSymbol(r *rand.Rand, o api.Object, name string) api.Symbol {
	s := api.Symbol{Name: name, Section: r.IntN(len(o.Sections)+2) - 2, Bind: r.IntN(3), Kind: r.IntN(3)}
	switch s.Section {
	case api.SecNone:
		s.Bind = 1 + r.IntN(2)
	case api.SecAbs:
		s.Value = r.Uint32()
	default:
		section := o.Sections[s.Section]
		length := len(section.B) + section.Zero
		s.Value = uint32(r.IntN(length + 1))
		s.Size = r.IntN(length - int(s.Value) + 1)
		if section.Rights&api.RtExec == 0 && s.Kind == api.SyFunc {
			s.Kind = api.SyData
		}
	}
	return s
}

func sizeOf(kind int) int { return []int{0, 4, 2, 1, 4, 4}[kind] }

func addRelocs(r *rand.Rand, o *api.Object, section int) {
	b := o.Sections[section].B
	for off := 0; off < len(b); off++ {
		x := reloc(section, off, 1+r.IntN(5), r.IntN(len(o.Symbols)), pick(r, 0, 1, -1, math.MaxInt32, math.MinInt32, r.IntN(100)))
		if off >= 4 && b[off-4] >= 64 && b[off-4] <= 72 && r.IntN(2) == 0 {
			x.Kind = api.RlWord
		} else if r.IntN(6) > 0 {
			continue
		}
		if end := off + sizeOf(x.Kind); end <= len(b) {
			clear(b[off:end])
			o.Relocs = append(o.Relocs, x)
			off = end - 1
		}
	}
}

func addLines(r *rand.Rand, o *api.Object, section int) {
	s := o.Sections[section]
	for off := range len(s.B) + s.Zero {
		if r.IntN(4) == 0 && !isInner(*o, section, off) {
			l := api.Line{Section: section, Off: off}
			if len(o.Files) > 0 && r.IntN(3) > 0 {
				l.File, l.Line = r.IntN(len(o.Files)), 1+r.IntN(api.MaxLine)
			}
			o.Lines = append(o.Lines, l)
		}
	}
}

// isInner reports whether an offset is within a field behind its first byte.
func isInner(o api.Object, section, off int) bool {
	return slices.ContainsFunc(o.Relocs, func(x api.Reloc) bool {
		return x.Section == section && x.Off < off && off < x.Off+sizeOf(x.Kind)
	})
}

// wantInLimits holds that an object is one, and that no symbol and no entry is within a field.
func wantInLimits(t *testing.T, o api.Object) {
	t.Helper()
	total := 0
	for _, s := range o.Sections {
		total += len(s.B) + s.Zero
		if s.Rights < 1 || s.Rights > 7 || s.Zero < 0 || s.Align < 1 || s.Align > 256 || s.Align&(s.Align-1) != 0 {
			t.Fatalf("section %+v", s)
		}
	}
	if total > 65536 || len(o.Sections) > 16 || len(o.Symbols) > 500 || len(o.Relocs) > 2000 || len(o.Files) > 20 || len(o.Lines) > 4000 {
		t.Fatalf("more than there may be: %d bytes, %+v", total, o)
	}
	for _, s := range o.Symbols {
		wantSymbol(t, o, s)
	}
	for i, x := range o.Relocs {
		if x.Section < 0 || x.Section >= len(o.Sections) || x.Symbol < 0 || x.Symbol >= len(o.Symbols) || x.Kind < 1 || x.Kind > 5 || x.Add < math.MinInt32 || x.Add > math.MaxInt32 {
			t.Fatalf("relocation %+v", x)
		}
		b := o.Sections[x.Section].B
		if x.Off < 0 || x.Off+sizeOf(x.Kind) > len(b) || len(bytes.Trim(b[x.Off:x.Off+sizeOf(x.Kind)], "\x00")) > 0 {
			t.Fatalf("the field of %+v", x)
		}
		if i > 0 && (o.Relocs[i-1].Section > x.Section || o.Relocs[i-1].Section == x.Section && o.Relocs[i-1].Off+sizeOf(o.Relocs[i-1].Kind) > x.Off) {
			t.Fatalf("%+v behind %+v", x, o.Relocs[i-1])
		}
	}
	for i, l := range o.Lines {
		if l.Section < 0 || l.Section >= len(o.Sections) || l.Line < 0 || l.Line > api.MaxLine || l.Line == 0 && l.File != 0 || l.Line > 0 && (l.File < 0 || l.File >= len(o.Files)) {
			t.Fatalf("entry %+v", l)
		}
		if l.Off < 0 || l.Off >= len(o.Sections[l.Section].B)+o.Sections[l.Section].Zero || isInner(o, l.Section, l.Off) {
			t.Fatalf("the offset of %+v", l)
		}
		if i > 0 && (o.Lines[i-1].Section > l.Section || o.Lines[i-1].Section == l.Section && o.Lines[i-1].Off >= l.Off) {
			t.Fatalf("%+v behind %+v", l, o.Lines[i-1])
		}
	}
}

func wantSymbol(t *testing.T, o api.Object, s api.Symbol) {
	t.Helper()
	ok := s.Bind >= 0 && s.Bind <= 2 && s.Kind >= 0 && s.Kind <= 2 && s.Section >= -2 && s.Section < len(o.Sections)
	switch {
	case !ok:
	case s.Section == api.SecNone:
		ok = s.Bind != api.SbLocal && s.Value == 0 && s.Size == 0
	case s.Section == api.SecAbs:
		ok = s.Size == 0
	default:
		x := o.Sections[s.Section]
		ok = s.Size >= 0 && int(s.Value)+s.Size <= len(x.B)+x.Zero && (s.Kind != api.SyFunc || x.Rights&api.RtExec != 0) && !isInner(o, s.Section, int(s.Value))
	}
	if !ok {
		t.Fatalf("symbol %+v of %+v", s, o)
	}
}

// P2.4, P2.9, P2.11: programs with changes have errors in their lines, or make objects.
func TestProgramsWithChanges(t *testing.T) {
	r := random(5)
	texts := []string{"", ",", ":", "x", "s0", "s1", "r1", "[", "]", "+", "-", "1", "0", "65536", "\"a\"", ".text", ".data", ".byte", ".align", ".reserve", ".zero", ".equ", ".loc", ".size", ".global", ".import", ".section", "rw", "nop", "jmp", "#"}
	made := 0
	for seed := range uint64(4000) {
		p := newProgram(random(seed), full())
		for range 1 + r.IntN(2) {
			i := r.IntN(len(p.lines))
			k := r.IntN(len(p.lines[i]))
			switch r.IntN(4) {
			case 0:
				p.lines = slices.Delete(p.lines, i, i+1)
			case 1:
				p.lines = slices.Insert(p.lines, i, p.lines[r.IntN(len(p.lines))])
			case 2:
				p.lines[i] = slices.Replace(slices.Clone(p.lines[i]), k, k+r.IntN(2), pick(r, texts...)+" ")
			case 3:
				p.lines[i] = slices.Delete(slices.Clone(p.lines[i]), k, k+1)
			}
		}
		file := pick(r, "", "f")
		src := p.plain()
		o, line, err := asm.Assemble(src, file)
		if err == api.OK {
			made++
			wantInLimits(t, o)
			wantReadBack(t, o)
		} else if line < 1 || line > len(p.lines) || !same(o, api.Object{}) {
			t.Fatalf("%s: %d in line %d", src, err, line)
		}
	}
	if made < 500 {
		t.Errorf("only %d programs are assembled", made)
	}
}

// loosely writes words with any blanks between them that keep them apart.
func loosely(r *rand.Rand, words []string) string {
	s := pick(r, "", " ", "\t \t")
	for i, w := range words {
		if i > 0 {
			s += pick(r, " ", "\t", "   ")
			if strings.Contains(",:[]+-", w) || strings.Contains(",:[]+-", words[i-1]) {
				s = strings.TrimRight(s, pick(r, "", " \t"))
			}
		}
		s += w
	}
	return s + pick(r, "", " ", "\t", ";", " ; nop \"' 08 #:", ";;")
}

// P2.6: comments, blanks and empty lines.
func TestLayout(t *testing.T) {
	for seed := range uint64(400) {
		r := random(seed)
		p := newProgram(r, style{align: true, reserve: true, loc: seed%2 == 0})
		var out strings.Builder
		numbers := map[int]int{}
		line := 1
		for i := range p.lines {
			for range r.IntN(3) {
				out.WriteString(pick(r, "", " ", "\t", "; x: nop", " ;") + "\n")
				line++
			}
			numbers[i+1] = line
			line++
			out.WriteString(loosely(r, p.words(i, plainName, plainNumber)) + pick(r, "\n", "\n", "\n", "\n"))
		}
		want := assembled(t, p.plain(), "")
		wantObject(t, out.String(), "", want)
		want = assembled(t, p.plain(), "f")
		if !strings.Contains(p.plain(), ".loc") {
			for i, l := range want.Lines {
				want.Lines[i].Line = numbers[l.Line]
			}
		}
		wantObject(t, out.String(), "f", want)
	}
}

// P2.7: two texts, one behind the other.
func TestParts(t *testing.T) {
	for seed := range uint64(300) {
		r := random(seed)
		first := newProgram(r, style{align: true, loc: true}).plain()
		second := newProgram(r, style{reserve: true, loc: true}).source(func(i int) string { return "t" + strconv.Itoa(i) }, plainNumber)
		all := map[string][]byte{}
		for _, src := range []string{first, second} {
			for _, s := range assembled(t, src, "").Sections {
				all[s.Name] = append(all[s.Name], s.B...)
			}
		}
		o := assembled(t, first+second, "")
		if len(o.Sections) != len(all) {
			t.Fatalf("%d sections", len(o.Sections))
		}
		for _, s := range o.Sections {
			if !bytes.Equal(s.B, all[s.Name]) {
				t.Fatalf("%s\nand\n%s\nsection %s: %v, want %v", first, second, s.Name, s.B, all[s.Name])
			}
		}
	}
}

// P2.8: other names.
func TestRenaming(t *testing.T) {
	odd := []string{"sp", "fp", "r0", "v1", "e", "nop", "add", ".text", ".loc", "rx", "text", "z8", "_", ".", "$a"[1:] + "$", strings.Repeat("q", 40), strings.Repeat("q", 39)}
	for seed := range uint64(300) {
		p := newProgram(random(seed), full())
		name := func(i int) string {
			if i < len(odd) {
				return odd[(i+int(seed))%len(odd)]
			}
			return fmt.Sprint("_", 1000-i)
		}
		for _, file := range []string{"", "f"} {
			want := assembled(t, p.plain(), file)
			for i, s := range want.Symbols {
				n, _ := strconv.Atoi(s.Name[1:])
				want.Symbols[i].Name = name(n)
			}
			wantObject(t, p.source(name, plainNumber), file, want)
		}
	}
}

// P2.9: errors in lines, with more lines behind them.
func TestLinesBehindErrors(t *testing.T) {
	for seed := range uint64(300) {
		r := random(seed)
		p := newProgram(r, style{align: true, loc: true})
		bad := pick(r, "nopp", "push r16", ".byte 256", ".global", "08", "s0: s0:", ".equ s1, 1", ".section q", ".align 3", ".zero 65536", ".file \"\"", ".equ s0, s1", "x: \"a\"")
		n := r.IntN(len(p.lines)) + 2
		head := strings.Split(p.plain(), "\n")[:n-1]
		src := strings.Join(append([]string{".data", ".global s0, s1", ".byte 0"}, append(head, bad)...), "\n")
		_, line, err := asm.Assemble(src, "")
		if err == api.OK || line > n+3 {
			t.Fatalf("%s: %d in line %d", src, err, line)
		}
		for _, tail := range []string{"\n", "\n\n.text\n", "\nnopp", "\n" + p.plain(), "\n\".\n#", "\n.loc 1\n.equ k, 1", "\ns0:", "\n.import s0, s1, s2"} {
			wantError(t, src+tail, "", line, err)
		}
	}
}

// P2.10: numbers in other notations.
func TestNotations(t *testing.T) {
	for seed := range uint64(400) {
		r := random(seed)
		p := newProgram(r, full())
		var constants strings.Builder
		count := 0
		other := func(n int, sign string) string {
			switch r.IntN(4) {
			case 0:
				count++
				name := "k" + strconv.Itoa(count)
				constants.WriteString(".equ " + name + ", " + spellings(r, n)[0] + "\n")
				return name
			case 1:
				part := r.IntN(n + 1)
				if sign == "-" {
					return spellings(r, part)[0] + "-" + spellings(r, n-part)[0]
				}
				return spellings(r, part)[0] + "+" + spellings(r, n-part)[0]
			case 2:
				more := r.IntN(1000)
				if n+more > math.MaxUint32 {
					more = 0
				}
				if sign == "-" {
					return strconv.Itoa(n+more) + " + " + strconv.Itoa(more)
				}
				return strconv.Itoa(n+more) + "-" + spellings(r, more)[0]
			}
			return spellings(r, n)[0]
		}
		src := p.source(plainName, other)
		wantObject(t, constants.String()+src, "", assembled(t, p.plain(), ""))
	}
}
