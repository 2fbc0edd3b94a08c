package obj

import "candling/api"

// The instructions of line programs. Those from special on move the offset by a multiple of offStep, the line by lineLeast and more, and append an entry.
const (
	moveOff     = 1
	moveLine    = 2
	setFile     = 3
	nextSection = 4
	appendEntry = 5
	special     = 64

	offStep   = 4
	offMost   = 44
	lineSteps = 16
	lineLeast = -4
	lineMost  = lineLeast + lineSteps - 1
)

// Pack returns the line program of a line table.
func Pack(l []api.Line) ([]byte, api.Errno) {
	if !isTable(l) {
		return nil, api.ErrObject
	}
	w := &writer{}
	now := api.Line{}
	for _, next := range l {
		w.entry(now, next)
		now = next
	}
	return w.b, api.OK
}

// entry writes what leads from the variables to the entry with the values next.
func (w *writer) entry(now, next api.Line) {
	if next.Section != now.Section {
		w.bytes(nextSection)
		w.number(next.Section - now.Section)
		now.Off = 0
	}
	if next.File != now.File {
		w.bytes(setFile)
		w.number(next.File)
	}
	off := next.Off - now.Off
	if n := offBeyond(off); n != 0 {
		w.bytes(moveOff)
		w.number(n)
		off -= n
	}
	line := next.Line - now.Line
	if n := lineBeyond(line); n != 0 {
		w.bytes(moveLine)
		w.signed(n)
		line -= n
	}
	w.bytes(byte(special + off/offStep*lineSteps + line - lineLeast))
}

// offBeyond returns the least number by which the offset has to move ahead of a special instruction that moves it by n in all.
func offBeyond(n int) int {
	if n > offMost {
		return n - offMost
	}
	return n % offStep
}

// lineBeyond returns by how much the line has to move ahead of a special instruction that moves it by n in all.
func lineBeyond(n int) int {
	switch {
	case n > lineMost:
		return n - lineMost
	case n < lineLeast:
		return n - lineLeast
	}
	return 0
}

// Unpack returns the line table that a line program produces.
func Unpack(b []byte) (l []api.Line, err api.Errno) {
	defer func() {
		if _, failed := recover().(fault); failed {
			l, err = nil, api.ErrProgram
		}
	}()
	m := &machine{position: position{b: b}}
	for !m.isAtEnd() {
		m.step()
	}
	return m.table, api.OK
}

// machine executes a line program, from the position that it embeds on.
type machine struct {
	position
	variables api.Line
	table     []api.Line
}

// step executes an instruction.
func (m *machine) step() {
	start := m.at
	op := m.take(1)[0]
	v := &m.variables
	switch {
	case op == moveOff:
		n := m.number()
		v.Off += n
	case op == moveLine:
		n := m.signed()
		v.Line += n
	case op == setFile:
		v.File = m.number()
	case op == nextSection:
		n := m.number()
		must(n >= 1, start, api.ErrProgram)
		v.Section += n
		v.Off = 0
	case op >= special:
		k := int(op - special)
		v.Off += k / lineSteps * offStep
		v.Line += k%lineSteps + lineLeast
		fallthrough
	case op == appendEntry:
		must(m.canAppend(), start, api.ErrProgram)
		m.table = append(m.table, *v)
	default:
		panic(fault{start, api.ErrProgram})
	}
	must(isInRange(*v), start, api.ErrProgram)
}

// canAppend reports whether the table is a line table with the values of the variables as a further entry.
func (m *machine) canAppend() bool {
	n := len(m.table)
	return n < api.MaxLines && isEntry(m.variables) && (n == 0 || startOf(m.table[n-1]).isAhead(startOf(m.variables)))
}

// LineAt returns the entry of the line table that covers an offset of a section.
func LineAt(o api.Object, section, off int) (api.Line, bool) {
	if !isIndex(section, o.Sections) || !hasByte(o.Sections[section], off) {
		return api.Line{}, false
	}
	var covering api.Line
	for _, l := range o.Lines {
		if l.Section == section && l.Off <= off {
			covering = l
		}
	}
	if covering.Line == 0 {
		return api.Line{}, false
	}
	return covering, true
}
