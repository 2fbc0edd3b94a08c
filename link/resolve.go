package link

import "candling/api"

// visit calls a function for each symbol, by objects, and then by their symbols.
func visit(l []api.Object, each func(api.SymRef, api.Symbol)) {
	for i, o := range l {
		for j, s := range o.Symbols {
			each(api.SymRef{Object: i, Symbol: j}, s)
		}
	}
}

func isDefined(s api.Symbol) bool { return s.Section != api.SecNone }

func isExported(s api.Symbol) bool { return isDefined(s) && s.Bind != api.SbLocal }

// definitions are the symbols to which names are resolved: the exported global ones, and the first exported weak ones.
type definitions struct{ global, weak map[string]api.SymRef }

// definitionsOf returns the definitions of objects; a name that two of them export as a global one ends linking.
func definitionsOf(l []api.Object) definitions {
	d := definitions{map[string]api.SymRef{}, map[string]api.SymRef{}}
	visit(l, func(ref api.SymRef, s api.Symbol) {
		_, isGlobal := d.global[s.Name]
		_, isWeak := d.weak[s.Name]
		switch {
		case !isExported(s):
		case s.Bind == api.SbGlobal:
			must(!isGlobal, api.ErrDup, s.Name)
			d.global[s.Name] = ref
		case !isWeak:
			d.weak[s.Name] = ref
		}
	})
	return d
}

// find returns the exported symbol to which a name is resolved.
func (d definitions) find(name string) (api.SymRef, bool) {
	if ref, found := d.global[name]; found {
		return ref, true
	}
	ref, found := d.weak[name]
	return ref, found
}

// resolved returns what the symbols of each object are resolved to; one that is undefined ends linking.
func resolved(l []api.Object, d definitions) [][]api.SymRef {
	refs := make([][]api.SymRef, len(l))
	visit(l, func(ref api.SymRef, s api.Symbol) {
		refs[ref.Object] = append(refs[ref.Object], d.resolve(ref, s))
	})
	return refs
}

// resolve returns what the symbol s, which stands at ref, is resolved to.
func (d definitions) resolve(ref api.SymRef, s api.Symbol) api.SymRef {
	definition, found := d.find(s.Name)
	switch {
	case s.Bind == api.SbLocal:
		return ref
	case found:
		return definition
	}
	must(s.Bind == api.SbWeak, api.ErrUndef, s.Name)
	return api.SymRef{Object: -1}
}

// names are the names that linked objects import with SbGlobal, and those that they export.
type names struct{ imported, exported map[string]bool }

// add takes the names of further objects.
func (n names) add(l ...api.Object) {
	visit(l, func(_ api.SymRef, s api.Symbol) {
		switch {
		case isExported(s):
			n.exported[s.Name] = true
		case s.Bind == api.SbGlobal:
			n.imported[s.Name] = true
		}
	})
}

// needs reports whether an object exports a name that is needed.
func (n names) needs(o api.Object) bool {
	for _, s := range o.Symbols {
		if isExported(s) && n.imported[s.Name] && !n.exported[s.Name] {
			return true
		}
	}
	return false
}

// pulled returns the indices of the members of a library that are pulled for objects, in order.
func pulled(l, lib []api.Object) []int {
	n := names{map[string]bool{}, map[string]bool{}}
	n.add(l...)
	var members []int
	for m, found := n.member(lib); found; m, found = n.member(lib) {
		members = append(members, m)
		n.add(lib[m])
	}
	return members
}

// member returns the first member of a library that exports a name that is needed. A member that was pulled never is: its names are exported.
func (n names) member(lib []api.Object) (int, bool) {
	for m, o := range lib {
		if n.needs(o) {
			return m, true
		}
	}
	return 0, false
}
