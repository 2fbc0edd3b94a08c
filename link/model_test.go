package link_test

import (
	"cmp"
	"slices"
	"testing"

	"candling/api"
	"candling/link"
	"candling/obj"
)

// The model does what the chapter says in the plainest way, without maps of names.

func isExport(s api.Symbol, bind int) bool { return s.Section != api.SecNone && s.Bind == bind }

// exportOf returns the first symbol that is exported by a name with a binding.
func exportOf(l []api.Object, name string, bind int) (api.SymRef, bool) {
	for i, o := range l {
		for k, s := range o.Symbols {
			if s.Name == name && isExport(s, bind) {
				return api.SymRef{Object: i, Symbol: k}, true
			}
		}
	}
	return api.SymRef{}, false
}

// nameOf returns what a name is resolved to.
func nameOf(l []api.Object, name string) (api.SymRef, bool) {
	if ref, found := exportOf(l, name, api.SbGlobal); found {
		return ref, true
	}
	return exportOf(l, name, api.SbWeak)
}

func modelResolve(l []api.Object) ([][]api.SymRef, string, api.Errno) {
	for i, o := range l {
		for _, s := range o.Symbols {
			if _, found := exportOf(l[:i], s.Name, api.SbGlobal); found && isExport(s, api.SbGlobal) {
				return nil, s.Name, api.ErrDup
			}
		}
	}
	refs := make([][]api.SymRef, len(l))
	for i, o := range l {
		for k, s := range o.Symbols {
			ref, found := nameOf(l, s.Name)
			if s.Bind == api.SbLocal {
				ref = api.SymRef{Object: i, Symbol: k}
			} else if !found && s.Bind == api.SbGlobal {
				return nil, s.Name, api.ErrUndef
			} else if !found {
				ref = api.SymRef{Object: -1}
			}
			refs[i] = append(refs[i], ref)
		}
	}
	return refs, "", api.OK
}

// isNeeded reports whether linked objects need a name.
func isNeeded(l []api.Object, name string) bool {
	if _, found := nameOf(l, name); found {
		return false
	}
	for _, o := range l {
		for _, s := range o.Symbols {
			if s.Name == name && s.Section == api.SecNone && s.Bind == api.SbGlobal {
				return true
			}
		}
	}
	return false
}

func exportsNeeded(l []api.Object, o api.Object) bool {
	return slices.ContainsFunc(o.Symbols, func(s api.Symbol) bool {
		return (isExport(s, api.SbGlobal) || isExport(s, api.SbWeak)) && isNeeded(l, s.Name)
	})
}

func modelPull(l, lib []api.Object) []int {
	all := slices.Clone(l)
	var members []int
	for m := 0; m < len(lib); m++ {
		if !slices.Contains(members, m) && exportsNeeded(all, lib[m]) {
			members = append(members, m)
			all = append(all, lib[m])
			m = -1
		}
	}
	return members
}

func upTo(n, multiple int) int {
	for n%multiple != 0 {
		n++
	}
	return n
}

// extent is where a segment stands.
type extent struct{ rights, start, end int }

func modelPlace(l []api.Object, base uint32) (at [][]int, segments []extent, err api.Errno) {
	if base%256 != 0 {
		return nil, nil, api.ErrArg
	}
	for _, o := range l {
		at = append(at, make([]int, len(o.Sections)))
	}
	end, sum := int(base), 0
	for _, rights := range []int{5, 1, 3, 7, 2, 4, 6} {
		end = upTo(end, 256)
		x := extent{rights, end, end}
		for i, o := range l {
			for k, s := range o.Sections {
				if s.Rights == rights {
					at[i][k] = upTo(end, s.Align)
					end = at[i][k] + lengthOf(s)
				}
			}
		}
		x.end = end
		if sum += end - x.start; end > 1<<32 || sum > 1<<19 {
			return nil, nil, api.ErrPlace
		}
		segments = append(segments, x)
	}
	return at, segments, api.OK
}

func modelAddress(l []api.Object, at [][]int, ref api.SymRef) int {
	if ref.Object == -1 {
		return 0
	}
	s := l[ref.Object].Symbols[ref.Symbol]
	if s.Section == api.SecAbs {
		return int(s.Value)
	}
	return at[ref.Object][s.Section] + int(s.Value)
}

// modelValue returns the value of a relocation, and whether it fits.
func modelValue(r api.Reloc, symbol, field int) (int, bool) {
	sum := symbol%(1<<32) + r.Add
	switch r.Kind {
	case api.RlHalf:
		return sum, sum >= -32768 && sum <= 65535
	case api.RlByte:
		return sum, sum >= -128 && sum <= 255
	case api.RlDiff:
		return sum - field, true
	case api.RlPage:
		return int(uint32(sum)) / 256, true
	}
	return sum, true
}

func modelLink(l, lib []api.Object, c api.LinkConf) (api.Image, string, api.Errno) {
	for _, m := range modelPull(l, lib) {
		l = append(slices.Clone(l), lib[m])
	}
	if len(l) > 20 {
		return api.Image{}, "", api.ErrLimit
	}
	refs, name, err := modelResolve(l)
	if err != api.OK {
		return api.Image{}, name, err
	}
	entry, found := nameOf(l, c.Entry)
	if !found {
		return api.Image{}, c.Entry, api.ErrUndef
	}
	at, segments, err := modelPlace(l, c.Base)
	if err != api.OK {
		return api.Image{}, "", err
	}
	memory := map[int]byte{}
	for i, o := range l {
		for k, s := range o.Sections {
			for off, x := range s.B {
				memory[at[i][k]+off] = x
			}
		}
	}
	for i, o := range l {
		for _, r := range o.Relocs {
			field := at[i][r.Section] + r.Off
			value, fits := modelValue(r, modelAddress(l, at, refs[i][r.Symbol]), field)
			if !fits {
				return api.Image{}, o.Symbols[r.Symbol].Name, api.ErrRange
			}
			for k := range sizeOf(r.Kind) {
				memory[field+k] = byte(value >> (8 * k))
			}
		}
	}
	img := api.Image{Entry: uint32(modelAddress(l, at, entry))}
	for _, x := range segments {
		s := api.Segment{At: uint32(x.start), Rights: x.rights}
		for address := x.start; address < x.end; address++ {
			s.B = append(s.B, memory[address])
		}
		if len(s.B) > 0 {
			img.Segments = append(img.Segments, s)
		}
	}
	modelNames(l, at, &img)
	return img, "", api.OK
}

// modelNames adds symbols, files and lines to an image.
func modelNames(l []api.Object, at [][]int, img *api.Image) {
	for i, o := range l {
		for k, s := range o.Symbols {
			if s.Section != api.SecNone {
				address := uint32(modelAddress(l, at, api.SymRef{Object: i, Symbol: k}))
				img.Symbols = append(img.Symbols, api.ImageSym{Name: s.Name, At: address, Size: s.Size, Kind: s.Kind, Object: i, Local: s.Bind == api.SbLocal, Abs: s.Section == api.SecAbs})
			}
		}
		for _, name := range o.Files {
			if !slices.Contains(img.Files, name) {
				img.Files = append(img.Files, name)
			}
		}
		for k, x := range o.Lines {
			end := lengthOf(o.Sections[x.Section])
			if k+1 < len(o.Lines) && o.Lines[k+1].Section == x.Section {
				end = o.Lines[k+1].Off
			}
			if x.Line != 0 {
				img.Lines = append(img.Lines, api.ImageLine{At: uint32(at[i][x.Section] + x.Off), N: end - x.Off, File: slices.Index(img.Files, o.Files[x.File]), Line: x.Line})
			}
		}
	}
	slices.SortFunc(img.Symbols, func(a, b api.ImageSym) int {
		return cmp.Or(cmp.Compare(a.At, b.At), cmp.Compare(a.Name, b.Name), cmp.Compare(a.Object, b.Object))
	})
	slices.SortFunc(img.Lines, func(a, b api.ImageLine) int { return cmp.Compare(a.At, b.At) })
}

// P4.2, P4.3: Resolve, Pull, Place and Link do what the model does, for what can be linked and for what can not.
func TestModel(t *testing.T) {
	count := map[api.Errno]int{}
	pulls := 0
	for seed := range uint64(4000) {
		x := randomTask(seed, pick(random(seed), 10, 50, 400))
		before := copiesOf(append(slices.Clone(x.l), x.lib...))
		wantRefs, wantName, wantErr := modelResolve(x.l)
		refs, name, err := link.Resolve(x.l)
		if err != wantErr || name != wantName || !slices.EqualFunc(refs, wantRefs, slices.Equal[[]api.SymRef]) {
			t.Fatalf("seed %d: Resolve: %v, %q, %d, want %v, %q, %d", seed, refs, name, err, wantRefs, wantName, wantErr)
		}
		members, err := link.Pull(x.l, x.lib)
		if want := modelPull(x.l, x.lib); err != api.OK || !slices.Equal(members, want) {
			t.Fatalf("seed %d: Pull: %v, %d, want %v", seed, members, err, want)
		}
		pulls += len(members)
		wantAt, _, wantErr := modelPlace(x.l, x.c.Base)
		at, err := link.Place(x.l, x.c.Base)
		isSame := func(a []uint32, b []int) bool {
			return slices.EqualFunc(a, b, func(a uint32, b int) bool { return a == uint32(b) })
		}
		if err != wantErr || !slices.EqualFunc(at, wantAt, isSame) {
			t.Fatalf("seed %d: Place: %v, %d, want %v, %d", seed, at, err, wantAt, wantErr)
		}
		want, wantName, wantErr := modelLink(x.l, x.lib, x.c)
		img, name, err := link.Link(x.l, x.lib, x.c)
		if err != wantErr || name != wantName || !isEqual(img, want) {
			t.Fatalf("seed %d: Link: %+v, %q, %d, want %+v, %q, %d", seed, img, name, err, want, wantName, wantErr)
		}
		count[err]++
		wantUnchanged(t, append(slices.Clone(x.l), x.lib...), before, img)
	}
	for _, err := range []api.Errno{api.OK, api.ErrArg, api.ErrDup, api.ErrUndef, api.ErrRange, api.ErrPlace} {
		if count[err] < 20 {
			t.Errorf("the error %d came %d times", err, count[err])
		}
	}
	if pulls < 500 {
		t.Errorf("%d members were pulled", pulls)
	}
}

// wantUnchanged holds that arguments have not changed, and that a result shares no memory with them.
func wantUnchanged(t *testing.T, l, before []api.Object, img api.Image) {
	t.Helper()
	isSame := func() bool { return slices.EqualFunc(l, before, obj.Same) }
	if !isSame() {
		t.Fatal("the arguments have changed")
	}
	for _, s := range img.Segments {
		clear(s.B)
	}
	clear(img.Files)
	if !isSame() {
		t.Fatal("a change of the image has changed the objects")
	}
}
