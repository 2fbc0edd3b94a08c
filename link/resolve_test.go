package link_test

import (
	"math"
	"slices"
	"testing"

	"candling/api"
	"candling/link"
)

func refs(l ...[2]int) []api.SymRef {
	var out []api.SymRef
	for _, x := range l {
		out = append(out, api.SymRef{Object: x[0], Symbol: x[1]})
	}
	return out
}

// local, global and weak are symbols that are defined, importedGlobal and importedWeak such that are not.
func local(name string) api.Symbol  { return absolute(name, 1, api.SbLocal) }
func global(name string) api.Symbol { return absolute(name, 2, api.SbGlobal) }
func weak(name string) api.Symbol   { return absolute(name, 3, api.SbWeak) }

func needing(name string) api.Symbol { return imported(name, api.SbGlobal) }
func asking(name string) api.Symbol  { return imported(name, api.SbWeak) }

// P4.2: what symbols are resolved to.
func TestResolve(t *testing.T) {
	l := objects(
		withSymbols(local("a"), needing("b"), asking("c"), weak("d"), weak("e"), asking("f")),
		withSymbols(needing("a"), weak("b"), weak("c"), global("d"), weak("e"), local("f")),
		api.Object{},
		withSymbols(global("a"), asking("b"), weak("c"), weak("d"), needing("e"), asking("f")),
	)
	want := [][]api.SymRef{
		refs([2]int{0, 0}, [2]int{1, 1}, [2]int{1, 2}, [2]int{1, 3}, [2]int{0, 4}, [2]int{-1, 0}),
		refs([2]int{3, 0}, [2]int{1, 1}, [2]int{1, 2}, [2]int{1, 3}, [2]int{0, 4}, [2]int{1, 5}),
		nil,
		refs([2]int{3, 0}, [2]int{1, 1}, [2]int{1, 2}, [2]int{1, 3}, [2]int{0, 4}, [2]int{-1, 0}),
	}
	got, name, err := link.Resolve(l)
	if err != api.OK || name != "" || !slices.EqualFunc(got, want, slices.Equal[[]api.SymRef]) {
		t.Errorf("%v, %q, %d, want %v", got, name, err, want)
	}
	if got, name, err := link.Resolve(nil); len(got) > 0 || name != "" || err != api.OK {
		t.Errorf("of nothing: %v, %q, %d", got, name, err)
	}
}

// P4.2: the errors of Resolve, and their order.
func TestResolveErrors(t *testing.T) {
	invalid := withSymbols(absolute("a", 1, 3))
	for _, c := range []struct {
		name  string
		l     []api.Object
		about string
		err   api.Errno
	}{
		{"undefined", objects(withSymbols(asking("a"), needing("b"), needing("c")), withSymbols(needing("a"))), "b", api.ErrUndef},
		{"undefined in the second", objects(withSymbols(asking("a"), local("b")), withSymbols(needing("b"), needing("a"))), "b", api.ErrUndef},
		{"local only", objects(withSymbols(needing("a")), withSymbols(local("a"))), "a", api.ErrUndef},
		{"twice", objects(withSymbols(global("a"), global("b")), withSymbols(global("b"), global("a"))), "b", api.ErrDup},
		{"the first second one", objects(withSymbols(global("a"), global("b"), global("c")), withSymbols(weak("a"), local("b"), global("c")), withSymbols(global("a"), global("b"))), "c", api.ErrDup},
		{"three times", objects(withSymbols(global("a")), withSymbols(global("a")), withSymbols(global("a"))), "a", api.ErrDup},
		{"once global", objects(withSymbols(weak("a")), withSymbols(global("a")), withSymbols(weak("a")), withSymbols(local("a"))), "", api.OK},
		{"weak and local ones", objects(withSymbols(weak("a"), local("b")), withSymbols(weak("a"), local("b"))), "", api.OK},
		{"twice before undefined", objects(withSymbols(needing("x"), global("a")), withSymbols(global("a"))), "a", api.ErrDup},
		{"invalid", objects(withSymbols(global("a")), withSymbols(global("a")), invalid), "", api.ErrObject},
		{"21", slices.Repeat(objects(invalid), 21), "", api.ErrLimit},
		{"20", make([]api.Object, 20), "", api.OK},
	} {
		l, name, err := link.Resolve(c.l)
		if err != c.err || name != c.about || err != api.OK && len(l) > 0 {
			t.Errorf("%s: %v, %q, %d, want %q, %d", c.name, l, name, err, c.about, c.err)
		}
	}
}

// P4.2: which members are pulled, and when.
func TestPull(t *testing.T) {
	for _, c := range []struct {
		name   string
		l, lib []api.Object
		want   []int
	}{
		{"the example", objects(exampleA()), objects(exampleB()), []int{0}},
		{"the other way", objects(exampleB()), objects(exampleA()), nil},
		{"no objects", nil, objects(exampleA(), exampleB()), nil},
		{"no members", objects(exampleA()), nil, nil},
		{"the first one", objects(withSymbols(needing("a"))), objects(withSymbols(global("b")), withSymbols(weak("a")), withSymbols(global("a"))), []int{1}},
		{"again from the first one on", objects(withSymbols(needing("b"))), objects(withSymbols(global("c")), withSymbols(global("a"), needing("c")), withSymbols(global("b"), needing("a"))), []int{2, 1, 0}},
		{"one that came to be needed first", objects(withSymbols(needing("b"), needing("d"))), objects(withSymbols(global("a")), withSymbols(global("b"), needing("a")), withSymbols(global("d"))), []int{1, 0, 2}},
		{"weak imports", objects(withSymbols(asking("a"))), objects(withSymbols(global("a"))), nil},
		{"weak imports of members", objects(withSymbols(needing("a"))), objects(withSymbols(global("a"), asking("b")), withSymbols(global("b"))), []int{0}},
		{"there already, weakly", objects(withSymbols(needing("a")), withSymbols(weak("a"))), objects(withSymbols(global("a"))), nil},
		{"there already, locally", objects(withSymbols(needing("a")), withSymbols(local("a"))), objects(withSymbols(global("a"))), []int{0}},
		{"exported locally", objects(withSymbols(needing("a"))), objects(withSymbols(local("a")), withSymbols(needing("a")), withSymbols(asking("a"))), nil},
		{"circles", objects(withSymbols(needing("a"))), objects(withSymbols(global("a"), needing("b")), withSymbols(global("b"), needing("a"))), []int{0, 1}},
		{"duplicates", objects(withSymbols(needing("a"), global("b"))), objects(withSymbols(global("a"), global("b"))), []int{0}},
		{"undefined", objects(withSymbols(needing("a"), needing("z"))), objects(withSymbols(global("a"))), []int{0}},
		{"20 of 20", chain(21)[:1], chain(21)[1:], []int{0, 1, 2, 3, 4, 5, 6, 7, 8, 9, 10, 11, 12, 13, 14, 15, 16, 17, 18, 19}},
	} {
		if got, err := link.Pull(c.l, c.lib); err != api.OK || !slices.Equal(got, c.want) {
			t.Errorf("%s: %v, %d, want %v", c.name, got, err, c.want)
		}
	}
}

// P4.2: the errors of Pull.
func TestPullErrors(t *testing.T) {
	invalid := objects(withSymbols(symbol("a", 0, 0, 0, 1, 0)))
	for _, c := range []struct {
		l, lib []api.Object
		want   api.Errno
	}{
		{make([]api.Object, 20), make([]api.Object, 20), api.OK},
		{make([]api.Object, 21), nil, api.ErrLimit},
		{nil, make([]api.Object, 21), api.ErrLimit},
		{invalid, make([]api.Object, 21), api.ErrLimit},
		{invalid, nil, api.ErrObject},
		{nil, invalid, api.ErrObject},
		{nil, append(make([]api.Object, 19), invalid...), api.ErrObject},
	} {
		if got, err := link.Pull(c.l, c.lib); err != c.want || len(got) > 0 {
			t.Errorf("of %d and %d objects: %v, %d, want %d", len(c.l), len(c.lib), got, err, c.want)
		}
	}
}

func sections(l ...api.Section) api.Object {
	for i := range l {
		l[i].Name = string(rune('a' + i))
	}
	return api.Object{Sections: l}
}

func plain(rights, align, length int) api.Section { return section("", rights, align, nil, length) }

// P4.2: where sections stand.
func TestPlace(t *testing.T) {
	rights := sections(plain(7, 1, 1), plain(6, 1, 1), plain(5, 1, 1), plain(4, 1, 1), plain(3, 1, 1), plain(2, 1, 1), plain(1, 1, 1))
	for _, c := range []struct {
		name string
		l    []api.Object
		base uint32
		want [][]uint32
	}{
		{"the example", objects(exampleA(), exampleB()), 4096, [][]uint32{{4096}, {4352}}},
		{"nothing", nil, 0, nil},
		{"no sections", make([]api.Object, 2), 1<<32 - 256, [][]uint32{nil, nil}},
		{"all rights", objects(rights), 0, [][]uint32{{768, 1536, 0, 1280, 512, 1024, 256}}},
		{"some rights", objects(sections(plain(6, 1, 3)), sections(plain(7, 1, 256)), sections(plain(1, 1, 257))), 512, [][]uint32{{1280}, {1024}, {512}}},
		{"by objects, then sections", objects(sections(plain(3, 1, 3), plain(1, 1, 9), plain(3, 1, 4)), sections(plain(3, 1, 5), plain(1, 1, 2))), 0, [][]uint32{{256, 0, 259}, {263, 9}}},
		{"aligned", objects(sections(plain(5, 256, 1), plain(5, 2, 1), plain(5, 16, 17), plain(5, 256, 0), plain(5, 4, 3), plain(5, 4, 0))), 256, [][]uint32{{256, 258, 272, 512, 512, 516}}},
		{"aligned behind the end", objects(sections(plain(5, 1, 1), plain(5, 256, 0), plain(1, 1, 1))), 0, [][]uint32{{0, 256, 256}}},
		{"no bytes", objects(sections(plain(5, 1, 0), plain(3, 1, 1), plain(1, 256, 0), plain(7, 1, 0))), 0, [][]uint32{{0, 0, 0, 256}}},
		{"bytes and zeros", objects(sections(section("", 5, 1, make([]byte, 3), 4), plain(5, 1, 1))), 0, [][]uint32{{0, 7}}},
		{"up to the end", objects(sections(plain(5, 1, 256), plain(6, 1, 0))), 1<<32 - 256, [][]uint32{{1<<32 - 256, 0}}},
		{"as many as fit", slices.Repeat(objects(sections(plain(5, 1, 65536))), 8), 256, [][]uint32{{256}, {65792}, {131328}, {196864}, {262400}, {327936}, {393472}, {459008}}},
	} {
		got, err := link.Place(c.l, c.base)
		if err != api.OK || !slices.EqualFunc(got, c.want, slices.Equal[[]uint32]) {
			t.Errorf("%s: %v, %d, want %v", c.name, got, err, c.want)
		}
	}
}

// P4.2: the errors of Place, and their order.
func TestPlaceErrors(t *testing.T) {
	full := slices.Repeat(objects(sections(plain(5, 1, 65536))), 8)
	invalid := sections(plain(0, 1, 1))
	for _, c := range []struct {
		name string
		l    []api.Object
		base uint32
		want api.Errno
	}{
		{"base", objects(exampleA(), exampleB()), 4100, api.ErrArg},
		{"base of nothing", nil, 1, api.ErrArg},
		{"the last base", nil, math.MaxUint32, api.ErrArg},
		{"behind the end", objects(sections(plain(5, 1, 257))), 1<<32 - 256, api.ErrPlace},
		{"a second segment behind the end", objects(sections(plain(5, 1, 1), plain(6, 1, 1))), 1<<32 - 256, api.ErrPlace},
		{"aligned behind the end", objects(sections(plain(5, 1, 1), plain(5, 256, 0))), 1<<32 - 256, api.OK},
		{"too many", append(full, sections(plain(1, 1, 1))), 256, api.ErrPlace},
		{"too many, aligned", append(full[:7:7], sections(plain(5, 1, 65280), plain(1, 1, 0), plain(5, 1, 1), plain(5, 256, 0), plain(5, 1, 1))), 0, api.ErrPlace},
		{"gaps between segments are no bytes", append(full[:7:7], sections(plain(5, 1, 65530), plain(1, 1, 1), plain(6, 1, 1))), 0, api.OK},
		{"arguments first", append(full, sections(plain(1, 1, 1))), 255, api.ErrArg},
		{"objects first", append(full, invalid), 255, api.ErrObject},
		{"21", slices.Repeat(objects(invalid), 21), 255, api.ErrLimit},
	} {
		got, err := link.Place(c.l, c.base)
		if err != c.want || err != api.OK && len(got) > 0 {
			t.Errorf("%s: %v, %d, want %d", c.name, got, err, c.want)
		}
	}
}
