package link_test

import (
	"cmp"
	"slices"
	"testing"

	"candling/api"
	"candling/link"
	"candling/obj"
)

func placesOf(t *testing.T, l []api.Object, base uint32) [][]uint32 {
	t.Helper()
	at, err := link.Place(l, base)
	if err != api.OK {
		t.Fatalf("Place: %d", err)
	}
	return at
}

func refsOf(t *testing.T, l []api.Object) [][]api.SymRef {
	t.Helper()
	l2, name, err := link.Resolve(l)
	if err != api.OK {
		t.Fatalf("Resolve: %q, %d", name, err)
	}
	return l2
}

// bytesOf returns the byte at each address of an image.
func bytesOf(i api.Image) map[int]byte {
	m := map[int]byte{}
	for _, s := range i.Segments {
		for off, x := range s.B {
			m[int(s.At)+off] = x
		}
	}
	return m
}

// addressOf returns the address of a symbol that is resolved to ref.
func addressOf(l []api.Object, at [][]uint32, ref api.SymRef) uint32 {
	if ref.Object < 0 {
		return 0
	}
	s := l[ref.Object].Symbols[ref.Symbol]
	if s.Section == api.SecAbs {
		return s.Value
	}
	return at[ref.Object][s.Section] + s.Value
}

// P4.4: what is linked is what was written: bytes of sections, fields, and zeros between them.
func TestWhatWasWritten(t *testing.T) {
	fields := 0
	tasks(t, 400, func(x task, img api.Image) {
		l := x.all()
		at, refs := placesOf(t, l, x.c.Base), refsOf(t, l)
		left := bytesOf(img)
		take := func(address int, want byte) {
			if got, found := left[address]; !found || got != want {
				t.Fatalf("%d at %#x, want %d", got, address, want)
			}
			delete(left, address)
		}
		for i, o := range l {
			for _, r := range o.Relocs {
				field := int(at[i][r.Section]) + r.Off
				value, fits := modelValue(r, int(addressOf(l, at, refs[i][r.Symbol])), field)
				if !fits {
					t.Fatalf("%v does not fit", r)
				}
				for k := range sizeOf(r.Kind) {
					take(field+k, byte(value>>(8*k)))
				}
				fields++
			}
			for k, s := range o.Sections {
				for off, want := range append(slices.Clone(s.B), make([]byte, s.Zero)...) {
					if !isInField(o.Relocs, k, off) {
						take(int(at[i][k])+off, want)
					}
				}
			}
		}
		for address, x := range left {
			if x != 0 {
				t.Fatalf("%d at %#x, between sections", x, address)
			}
		}
	})
	if fields < 1000 {
		t.Errorf("only %d fields", fields)
	}
}

// isInField reports whether a relocation changes a byte of a section.
func isInField(l []api.Reloc, section, off int) bool {
	return slices.ContainsFunc(l, func(r api.Reloc) bool {
		return r.Section == section && r.Off <= off && off < r.Off+sizeOf(r.Kind)
	})
}

// P4.5: sections do not overlap, are aligned, and lie in the segment with their rights; segments share no page.
func TestLayout(t *testing.T) {
	tasks(t, 400, func(x task, img api.Image) {
		l := x.all()
		owner := map[int][2]int{}
		for i, at := range placesOf(t, l, x.c.Base) {
			for k, s := range l[i].Sections {
				if at[k]%uint32(s.Align) != 0 {
					t.Fatalf("a section with the Align %d stands at %#x", s.Align, at[k])
				}
				for off := range lengthOf(s) {
					address := int(at[k]) + off
					if other, found := owner[address]; found {
						t.Fatalf("the sections %v and %d, %d overlap", other, i, k)
					}
					owner[address] = [2]int{i, k}
					if !isInSegment(img, address, s.Rights) {
						t.Fatalf("%#x, of the Rights %d, lies elsewhere", address, s.Rights)
					}
				}
			}
		}
		for k, s := range img.Segments {
			if k > 0 && (int(img.Segments[k-1].At)+len(img.Segments[k-1].B)-1)/256 >= int(s.At)/256 {
				t.Fatalf("two segments share a page: %+v", img.Segments)
			}
		}
	})
}

func isInSegment(img api.Image, address, rights int) bool {
	return slices.ContainsFunc(img.Segments, func(s api.Segment) bool {
		return s.Rights == rights && int(s.At) <= address && address < int(s.At)+len(s.B)
	})
}

// P4.6: names are resolved to exported symbols of the same name, to the global one if there is one.
func TestResolution(t *testing.T) {
	moved := 0
	for seed := range uint64(1000) {
		x := randomTask(seed, 100)
		refs, _, err := link.Resolve(x.l)
		if err != api.OK {
			continue
		}
		for i, o := range x.l {
			for k, s := range o.Symbols {
				wantResolved(t, x.l, s, api.SymRef{Object: i, Symbol: k}, refs[i][k])
			}
		}
		if hasWeakRivals(x.l) || len(x.l) < 2 {
			continue
		}
		order := random(seed).Perm(len(x.l))
		var other []api.Object
		for _, i := range order {
			other = append(other, x.l[i])
		}
		for j, l := range refsOf(t, other) {
			for k, ref := range l {
				if ref.Object >= 0 {
					ref.Object = order[ref.Object]
				}
				if ref != refs[order[j]][k] {
					t.Fatalf("%v in another order, and %v", ref, refs[order[j]][k])
				}
			}
		}
		moved++
	}
	if moved < 50 {
		t.Errorf("only %d in another order", moved)
	}
}

func wantResolved(t *testing.T, l []api.Object, s api.Symbol, own, ref api.SymRef) {
	t.Helper()
	if s.Bind == api.SbLocal {
		if ref != own {
			t.Fatalf("the local %v is resolved to %v", own, ref)
		}
		return
	}
	definition, isGlobal := exportOf(l, s.Name, api.SbGlobal)
	if isGlobal && ref != definition {
		t.Fatalf("%v is resolved to %v, and there is %v", own, ref, definition)
	}
	if ref.Object < 0 {
		if _, found := nameOf(l, s.Name); found || s.Section != api.SecNone || s.Bind != api.SbWeak {
			t.Fatalf("%v is resolved to %v", own, ref)
		}
		return
	}
	to := l[ref.Object].Symbols[ref.Symbol]
	if to.Name != s.Name || to.Section == api.SecNone || to.Bind == api.SbLocal {
		t.Fatalf("%v is resolved to %+v", s, to)
	}
}

// hasWeakRivals reports whether a name is defined weakly only, by several.
func hasWeakRivals(l []api.Object) bool {
	count := map[string]int{}
	for _, o := range l {
		for _, s := range o.Symbols {
			_, isGlobal := exportOf(l, s.Name, api.SbGlobal)
			if isExport(s, api.SbWeak) && !isGlobal {
				if count[s.Name]++; count[s.Name] > 1 {
					return true
				}
			}
		}
	}
	return false
}

// P4.7: what is pulled is needed, and nothing else is.
func TestLibraries(t *testing.T) {
	pulls := 0
	for seed := range uint64(1000) {
		x := randomTask(seed, 50)
		members, err := link.Pull(x.l, x.lib)
		if err != api.OK {
			t.Fatalf("Pull: %d", err)
		}
		all := slices.Clone(x.l)
		for _, m := range members {
			if !exportsNeeded(all, x.lib[m]) {
				t.Fatalf("seed %d: the member %d is not needed", seed, m)
			}
			all = append(all, x.lib[m])
			pulls++
		}
		for m, o := range x.lib {
			if exportsNeeded(all, o) {
				t.Fatalf("seed %d: the member %d is needed", seed, m)
			}
		}
		if again, err := link.Pull(all, x.lib); err != api.OK || len(again) > 0 {
			t.Fatalf("seed %d: pulled again: %v, %d", seed, again, err)
		}
	}
	if pulls < 200 {
		t.Errorf("only %d members were pulled", pulls)
	}
}

// P4.8: at another base everything moves by the difference.
func TestMoved(t *testing.T) {
	count := 0
	tasks(t, 400, func(x task, img api.Image) {
		base := uint32(random(uint64(count)).IntN(1<<24-200)) * 256
		other, _, err := link.Link(x.l, x.lib, conf(base, x.c.Entry))
		if err == api.ErrRange {
			return
		}
		if err != api.OK {
			t.Fatalf("at %#x: %d", base, err)
		}
		count++
		diff := base - x.c.Base
		l := x.all()
		wantMoved(t, img, other, diff)
		want := img.Entry
		if entry, _ := nameOf(l, x.c.Entry); l[entry.Object].Symbols[entry.Symbol].Section != api.SecAbs {
			want += diff
		}
		if other.Entry != want {
			t.Fatalf("the entry %#x is moved to %#x", img.Entry, other.Entry)
		}
		from, to := bytesOf(img), bytesOf(other)
		at, refs := placesOf(t, l, x.c.Base), refsOf(t, l)
		for i, o := range l {
			for _, r := range o.Relocs {
				ref := refs[i][r.Symbol]
				isAddress := ref.Object >= 0 && l[ref.Object].Symbols[ref.Symbol].Section != api.SecAbs
				for k := range sizeOf(r.Kind) {
					field := int(at[i][r.Section]) + r.Off + k
					if r.Kind == api.RlDiff && isAddress && from[field] != to[int(uint32(field)+diff)] {
						t.Fatalf("the field at %#x has changed", field)
					}
				}
			}
		}
	})
	if count < 200 {
		t.Errorf("only %d were moved", count)
	}
}

// wantMoved holds that segments, symbols, lines and Entry of an image are those of another one, moved by diff.
func wantMoved(t *testing.T, img, other api.Image, diff uint32) {
	t.Helper()
	for k, s := range img.Segments {
		o := other.Segments[k]
		if o.At != s.At+diff || o.Rights != s.Rights || len(o.B) != len(s.B) {
			t.Fatalf("%+v is moved to %+v", s, o)
		}
	}
	for k, x := range img.Lines {
		x.At += diff
		if other.Lines[k] != x {
			t.Fatalf("%+v is moved to %+v", x, other.Lines[k])
		}
	}
	var want []api.ImageSym
	for _, s := range img.Symbols {
		if !s.Abs {
			s.At += diff
		}
		want = append(want, s)
	}
	slices.SortFunc(want, compareSymbols)
	if !slices.Equal(want, other.Symbols) || !slices.Equal(img.Files, other.Files) || len(img.Segments) != len(other.Segments) || len(img.Lines) != len(other.Lines) {
		t.Fatalf("symbols %+v, want %+v", other.Symbols, want)
	}
}

func compareSymbols(a, b api.ImageSym) int {
	return cmp.Or(cmp.Compare(a.At, b.At), cmp.Compare(a.Name, b.Name), cmp.Compare(a.Object, b.Object))
}

// P4.9: the line of an address is that of the offset in the section.
func TestLines(t *testing.T) {
	found := 0
	tasks(t, 100, func(x task, img api.Image) {
		l := x.all()
		for i, at := range placesOf(t, l, x.c.Base) {
			for k, s := range l[i].Sections {
				for off := range lengthOf(s) {
					if off%7 != 0 && off%50 > 2 {
						continue
					}
					file, line, ok := link.LineAt(img, at[k]+uint32(off))
					want, wantOK := obj.LineAt(l[i], k, off)
					wantFile := ""
					if wantOK {
						wantFile = l[i].Files[want.File]
						found++
					}
					if ok != wantOK || line != want.Line || file != wantFile {
						t.Fatalf("%q, %d, %v at the offset %d of the section %d of %d, want %q, %+v", file, line, ok, off, k, i, wantFile, want)
					}
				}
			}
		}
	})
	if found < 1000 {
		t.Errorf("only %d lines", found)
	}
}

// P4.10: stripped objects give the same segments and the same entry.
func TestStripped(t *testing.T) {
	strip := func(l []api.Object) []api.Object {
		var out []api.Object
		for _, o := range l {
			s, err := obj.Strip(o)
			if err != api.OK {
				t.Fatalf("Strip: %d", err)
			}
			out = append(out, s)
		}
		return out
	}
	gone := 0
	tasks(t, 300, func(x task, img api.Image) {
		other := imageOf(t, strip(x.l), strip(x.lib), x.c)
		gone += len(img.Lines) - len(other.Lines)
		want := api.Image{Segments: img.Segments, Entry: img.Entry}
		if got := (api.Image{Segments: other.Segments, Entry: other.Entry}); !isEqual(got, want) {
			t.Fatalf("%+v, stripped %+v", want, got)
		}
	})
	if gone < 500 {
		t.Errorf("only %d lines are gone", gone)
	}
}

// P4.11: images are valid, ByteAt agrees with Pages, and SymbolAt finds what begins there.
func TestImages(t *testing.T) {
	tasks(t, 200, func(x task, img api.Image) {
		if err := link.Check(img); err != api.OK {
			t.Fatalf("Check of %+v: %d", img, err)
		}
		pages, err := link.Pages(img)
		if err != api.OK {
			t.Fatalf("Pages: %d", err)
		}
		memory := bytesOf(img)
		for _, p := range pages {
			for off, want := range p.B {
				_, isByte := memory[p.N*256+off]
				if !isByte && want != 0 {
					t.Fatalf("%d behind the end, at %#x", want, p.N*256+off)
				}
				if off%5 != 0 && off < 250 {
					continue
				}
				got, found := link.ByteAt(img, uint32(p.N*256+off))
				if found != isByte || got != want {
					t.Fatalf("%d, %v at %#x, and %d in its page", got, found, p.N*256+off, want)
				}
			}
		}
		for k, s := range img.Symbols {
			if s.Size == 0 || s.Abs {
				continue
			}
			if got, found := link.SymbolAt(img, s.At); !found || img.Symbols[got].At != s.At {
				t.Fatalf("SymbolAt of the symbol %d: %d, %v", k, got, found)
			}
		}
	})
}

// P4.12: an object that has nothing but weak imports changes nothing.
func TestIndependentObjects(t *testing.T) {
	count := 0
	tasks(t, 300, func(x task, img api.Image) {
		if len(x.all()) > len(x.l) {
			return
		}
		count++
		var further api.Object
		for _, name := range names() {
			further.Symbols = append(further.Symbols, asking(name))
		}
		if other := imageOf(t, append(slices.Clone(x.l), further), x.lib, x.c); !isEqual(img, other) {
			t.Fatalf("%+v, and with a further object %+v", img, other)
		}
	})
	if count < 100 {
		t.Errorf("only %d without members", count)
	}
}
