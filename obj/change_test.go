package obj_test

import (
	"math/rand/v2"
	"slices"
	"strings"
	"testing"

	"candling/api"
	"candling/obj"
)

func stripped(t *testing.T, o api.Object) api.Object {
	t.Helper()
	s, err := obj.Strip(o)
	if err != api.OK {
		t.Fatalf("Strip of %+v: %d", o, err)
	}
	return s
}

func sorted(t *testing.T, o api.Object) api.Object {
	t.Helper()
	s, err := obj.Sort(o)
	if err != api.OK {
		t.Fatalf("Sort of %+v: %d", o, err)
	}
	return s
}

// P3.4: Strip.
func TestStrip(t *testing.T) {
	o := sample()
	want := sample()
	want.Files, want.Lines = nil, nil
	want.Symbols = slices.Delete(want.Symbols, 5, 7)
	if got := stripped(t, o); !isEqual(got, want) {
		t.Errorf("%+v, want %+v", got, want)
	}
	o.Relocs = o.Relocs[1:2]
	want.Symbols = []api.Symbol{o.Symbols[0], o.Symbols[2], o.Symbols[4], o.Symbols[7]}
	want.Relocs = []api.Reloc{reloc(0, 4, api.RlDiff, 1, -4)}
	if got := stripped(t, o); !isEqual(got, want) {
		t.Errorf("with one relocation: %+v, want %+v", got, want)
	}
	if got := stripped(t, api.Object{}); !isEqual(got, api.Object{}) {
		t.Errorf("of the empty object: %+v", got)
	}
}

// P3.11: what is stripped is valid, stripped already, and says the same.
func TestStripped(t *testing.T) {
	gone := 0
	for seed := range uint64(1500) {
		o := randomObject(random(seed))
		before := copyOf(o)
		s := stripped(t, o)
		wantValid(t, s)
		if again := stripped(t, s); !isEqual(again, s) {
			t.Fatalf("%+v is stripped again to %+v", s, again)
		}
		if len(s.Files) > 0 || len(s.Lines) > 0 {
			t.Fatalf("%+v has lines", s)
		}
		wantSameRelocs(t, o, s)
		isNamed := map[string]bool{}
		for _, r := range o.Relocs {
			isNamed[o.Symbols[r.Symbol].Name] = true
		}
		kept := slices.DeleteFunc(slices.Clone(o.Symbols), func(x api.Symbol) bool { return x.Bind == api.SbLocal && !isNamed[x.Name] })
		if !slices.Equal(s.Symbols, kept) || !isEqual(api.Object{Sections: s.Sections}, api.Object{Sections: o.Sections}) {
			t.Fatalf("%+v is stripped to %+v", o, s)
		}
		gone += len(o.Symbols) - len(kept)
		wantOwnMemory(t, o, before, s)
	}
	if gone < 500 {
		t.Errorf("only %d symbols were left out", gone)
	}
}

// wantSameRelocs holds that relocations name the same symbols as before.
func wantSameRelocs(t *testing.T, before, after api.Object) {
	t.Helper()
	if len(before.Relocs) != len(after.Relocs) {
		t.Fatalf("%v has become %v", before.Relocs, after.Relocs)
	}
	for i, r := range before.Relocs {
		x := after.Relocs[i]
		if before.Symbols[r.Symbol] != after.Symbols[x.Symbol] {
			t.Fatalf("%v names %v, and now %v", r, before.Symbols[r.Symbol], after.Symbols[x.Symbol])
		}
		x.Symbol = r.Symbol
		if x != r {
			t.Fatalf("%v has become %v", r, x)
		}
	}
}

// P3.4: Sort.
func TestSort(t *testing.T) {
	o := sample()
	want := api.Object{
		Sections: []api.Section{o.Sections[2], o.Sections[1], o.Sections[0]},
		Symbols: []api.Symbol{
			symbol(".own", 1, 0, 4, api.SbLocal, api.SyNone),
			symbol("_port", api.SecAbs, 0xffffffff, 0, api.SbLocal, api.SyData),
			symbol("end$", 0, 32, 0, api.SbLocal, api.SyNone),
			symbol("loop", 2, 4, 0, api.SbLocal, api.SyNone),
			symbol("main", 2, 0, 16, api.SbGlobal, api.SyFunc),
			symbol("maybe", api.SecNone, 0, 0, api.SbWeak, api.SyNone),
			symbol("puts", api.SecNone, 0, 0, api.SbGlobal, api.SyFunc),
			symbol("table", 1, 4, 16, api.SbWeak, api.SyData),
		},
		Relocs: []api.Reloc{
			reloc(1, 8, api.RlWord, 4, -1<<31),
			reloc(2, 0, api.RlWord, 3, 0),
			reloc(2, 4, api.RlDiff, 6, -4),
			reloc(2, 8, api.RlHalf, 1, 7),
			reloc(2, 10, api.RlByte, 1, 1),
			reloc(2, 12, api.RlPage, 7, 1<<31-1),
		},
		Files: []string{"lib/puts.s", "main.s"},
		Lines: entries([4]int{0, 31, 0, 2}, [4]int{1, 19, 1, api.MaxLine}, [4]int{2, 0, 1, 1}, [4]int{2, 4, 0, 3}, [4]int{2, 12, 0, 0}),
	}
	if got := sorted(t, o); !isEqual(got, want) {
		t.Errorf("%+v, want %+v", got, want)
	}
	if got := sorted(t, api.Object{}); !isEqual(got, api.Object{}) {
		t.Errorf("of the empty object: %+v", got)
	}
	names := api.Object{Files: []string{"b", "a", "~", "!", "ab", "B"}}
	if got := sorted(t, names); !slices.Equal(got.Files, []string{"!", "B", "a", "ab", "b", "~"}) {
		t.Errorf("files in the order %q", got.Files)
	}
}

// P3.12: what is sorted is valid, sorted already, and the same whatever the order was.
func TestSorted(t *testing.T) {
	for seed := range uint64(1500) {
		r := random(seed)
		o := randomObject(r)
		before := copyOf(o)
		s := sorted(t, o)
		wantValid(t, s)
		if again := sorted(t, s); !isEqual(again, s) {
			t.Fatalf("%+v is sorted again to %+v", s, again)
		}
		isSorted := slices.IsSortedFunc(s.Sections, func(a, b api.Section) int { return strings.Compare(a.Name, b.Name) }) &&
			slices.IsSortedFunc(s.Symbols, func(a, b api.Symbol) int { return strings.Compare(a.Name, b.Name) }) &&
			slices.IsSorted(s.Files)
		if !isSorted {
			t.Fatalf("%+v is not sorted", s)
		}
		other := shuffled(r, o)
		wantValid(t, other)
		if got := sorted(t, other); !obj.Same(got, s) || !isEqual(got, s) {
			t.Fatalf("%+v is sorted to %+v, and in another order to %+v", o, s, got)
		}
		wantOwnMemory(t, o, before, s)
	}
}

// shuffled returns an object with its sections, symbols and files in another order.
func shuffled(r *rand.Rand, o api.Object) api.Object {
	c := copyOf(o)
	sections, symbols, files := r.Perm(len(o.Sections)), r.Perm(len(o.Symbols)), r.Perm(len(o.Files))
	for i, x := range o.Sections {
		c.Sections[sections[i]] = x
	}
	for i, x := range o.Symbols {
		if x.Section >= 0 {
			x.Section = sections[x.Section]
		}
		c.Symbols[symbols[i]] = x
	}
	for i, x := range o.Files {
		c.Files[files[i]] = x
	}
	for i, x := range o.Relocs {
		c.Relocs[i].Section, c.Relocs[i].Symbol = sections[x.Section], symbols[x.Symbol]
	}
	slices.SortFunc(c.Relocs, func(a, b api.Reloc) int {
		return placeOrder(entry(a.Section, a.Off, 0, 0), entry(b.Section, b.Off, 0, 0))
	})
	for i, x := range o.Lines {
		c.Lines[i].Section = sections[x.Section]
		if x.Line != 0 {
			c.Lines[i].File = files[x.File]
		}
	}
	slices.SortFunc(c.Lines, placeOrder)
	return c
}
