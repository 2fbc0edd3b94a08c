package runs_test

import (
	"bytes"
	"hash/fnv"
	"math/rand/v2"
	"slices"
	"strings"
	"testing"

	"candling/api"
	"candling/runs"
)

// summed is bytes with their sum behind them.
func summed(b ...byte) []byte {
	h := fnv.New32a()
	h.Write(b)
	return append(slices.Clone(b), byte(h.Sum32()), byte(h.Sum32()>>8), byte(h.Sum32()>>16), byte(h.Sum32()>>24))
}

// small is a record without pages, and its bytes but for the sum.
func small() (api.Record, []byte) {
	r := api.Record{
		Setup: api.Setup{Entry: 0xffffffff, SP: 128, Heap: api.HeapConf{Page: 300, N: 2, Red: 64, Quarantine: 65536}, In: []byte("ab")},
		Turns: []api.Turn{{Thread: 7, Steps: 127, Sig: 8}, {Thread: 1, Steps: 199873}, {}},
	}
	return r, slices.Concat([]byte("CNRR"),
		[]byte{0},
		[]byte{255, 255, 255, 255, 15},
		[]byte{128, 1},
		[]byte{172, 2}, []byte{2}, []byte{64}, []byte{128, 128, 4},
		[]byte{2, 'a', 'b'},
		[]byte{3}, []byte{71, 127}, []byte{1, 193, 153, 12}, []byte{0, 0})
}

// P9.4: the bytes of records.
func TestBytes(t *testing.T) {
	r, b := small()
	wantBytes(t, r, summed(b...))
	wantBytes(t, api.Record{Setup: api.Setup{Heap: api.HeapConf{Page: 1}}}, summed('C', 'N', 'R', 'R', 0, 0, 0, 1, 0, 0, 0, 0, 0))
	r = api.Record{Setup: api.Setup{
		Pages: []api.Page{page(0, 0), page(1<<24-1, 7, 1, 2, 2, 2)},
		Heap:  api.HeapConf{Page: 1},
	}}
	wantBytes(t, r, summed(slices.Concat([]byte("CNRR"), []byte{2},
		[]byte{0, 0, 255, 0, 251, 0},
		[]byte{255, 255, 255, 7, 7, 0, 1, 128, 2, 255, 0, 247, 0},
		[]byte{0, 0, 1, 0, 0, 0, 0, 0})...))
}

func wantBytes(t *testing.T, r api.Record, want []byte) {
	t.Helper()
	if got := written(t, r); !bytes.Equal(got, want) {
		t.Fatalf("Bytes: %v, want %v", got, want)
	}
	b := slices.Clone(want)
	got, err := runs.Read(b)
	wantOK(t, "Read", err)
	clear(b)
	if !sameRecord(got, r) {
		t.Fatalf("Read: %v, want %v", got, r)
	}
}

// onePage is the bytes of a record that has one page, of which the packed bytes are these.
func onePage(packed ...byte) []byte {
	return summed(slices.Concat([]byte{'C', 'N', 'R', 'R', 1, 5, 3}, packed, []byte{0, 0, 1, 0, 0, 0, 0, 0})...)
}

// inPage is the record with this page.
func inPage(b []byte) api.Record {
	return api.Record{Setup: api.Setup{Pages: []api.Page{{N: 5, Rights: 3, B: b}}, Heap: api.HeapConf{Page: 1}}}
}

// mixed is n bytes of which no two neighbours are equal.
func mixed(n int) []byte {
	b := make([]byte, n)
	for i := range b {
		b[i] = byte(i)
	}
	return b
}

// P9.4: the packed bytes of pages.
func TestPacked(t *testing.T) {
	equal := func(n int, x byte) []byte { return slices.Repeat([]byte{x}, n) }
	for _, c := range []struct{ page, packed [][]byte }{
		{[][]byte{mixed(256)}, [][]byte{{127}, mixed(128), {127}, mixed(256)[128:]}},
		{[][]byte{equal(130, 1), equal(126, 2)}, [][]byte{{255, 1, 251, 2}}},
		{[][]byte{equal(131, 1), equal(125, 2)}, [][]byte{{255, 1, 0, 1, 250, 2}}},
		{[][]byte{equal(132, 1), equal(124, 2)}, [][]byte{{255, 1, 1, 1, 1, 249, 2}}},
		{[][]byte{equal(133, 1), equal(123, 2)}, [][]byte{{255, 1, 128, 1, 248, 2}}},
		{[][]byte{equal(255, 1), {2}}, [][]byte{{255, 1, 250, 1, 0, 2}}},
		{[][]byte{equal(254, 1), {2, 2}}, [][]byte{{255, 1, 249, 1, 1, 2, 2}}},
		{[][]byte{{3, 3}, equal(127, 4), mixed(127)}, [][]byte{{1, 3, 3, 252, 4, 126}, mixed(127)}},
		{[][]byte{mixed(128), equal(128, 1)}, [][]byte{{127}, mixed(128), {253, 1}}},
		{[][]byte{mixed(127), equal(129, 1)}, [][]byte{{126}, mixed(127), {254, 1}}},
		{[][]byte{mixed(129), equal(127, 1)}, [][]byte{{127}, mixed(128), {0, 128, 252, 1}}},
		{[][]byte{{9, 9, 8, 8}, equal(125, 7), mixed(127)}, [][]byte{{3, 9, 9, 8, 8, 250, 7, 126}, mixed(127)}},
	} {
		wantBytes(t, inPage(slices.Concat(c.page...)), onePage(slices.Concat(c.packed...)...))
	}
	for seed := range uint64(2000) {
		b := randomPage(random(seed))
		wantBytes(t, inPage(b), onePage(modelPacked(b)...))
	}
}

// randomPage is the bytes of a page with runs of equal bytes.
func randomPage(r *rand.Rand) []byte {
	var b []byte
	for len(b) < 256 {
		n := pick(r, 1, 1, 1+r.IntN(5), 1+r.IntN(140))
		b = append(b, slices.Repeat([]byte{byte(r.IntN(3))}, n)...)
		if isOneIn(r, 8) {
			b = append(b, mixed(r.IntN(140))...)
		}
	}
	return b[:256]
}

// P9.4: bytes that are those of no record.
func TestReadErrors(t *testing.T) {
	r, b := small()
	// What stands at an index is changed; the sum is right again.
	changed := func(at int, to ...byte) []byte {
		return summed(slices.Concat(b[:at], to, b[at+1:])...)
	}
	without := func(n int) []byte { return summed(b[:len(b)-n]...) }
	full := onePage(255, 0, 251, 0)
	tooManyPages := []byte{'C', 'N', 'R', 'R', 209, 15}
	for i := range 2001 {
		tooManyPages = append(tooManyPages, byte(i)|128, byte(i>>7)|128, 1, 0, 255, 0, 251, 0)
	}
	tooManyPages = append(tooManyPages, 0, 0, 1, 0, 0, 0, 0, 0)
	for name, x := range map[string][]byte{
		"nothing":                       nil,
		"the mark alone":                []byte("CNRR"),
		"a sum alone":                   summed(),
		"the mark and a sum":            summed('C', 'N', 'R', 'R'),
		"another mark":                  changed(3, 'S'),
		"a longer number":               changed(4, 128, 0),
		"a number beyond 32 bits":       changed(9, 16),
		"a number of six bytes":         changed(9, 143, 0),
		"a number far beyond":           changed(9, 255, 255, 255, 255, 255, 1),
		"a stack pointer of two bytes":  changed(11, 129, 0),
		"a heap from page 0 on":         summed('C', 'N', 'R', 'R', 0, 0, 0, 0, 0, 0, 0, 0, 0),
		"a heap with 2001 pages":        changed(14, 209, 15),
		"a red zone of 65":              changed(15, 65),
		"a quarantine of 65537":         changed(16, 129),
		"more input than there is":      changed(19, 200, 1),
		"less input than there is":      changed(19, 1),
		"more turns than there are":     changed(22, 4),
		"fewer turns than there are":    changed(22, 2),
		"signal 9":                      changed(23, 72),
		"a number for a thread is long": changed(23, 128, 1),
		"too many steps":                changed(26, 194),
		"far too many steps":            changed(28, 140, 128, 128, 1),
		"more behind":                   summed(append(slices.Clone(b), 0)...),
		"no last byte":                  without(1),
		"no last turn":                  without(2),
		"no sum":                        b,
		"a page too short":              onePage(255, 0, 250, 0),
		"a page too long":               onePage(255, 0, 252, 0),
		"a page without an end":         onePage(255, 0, 255),
		"the second form for more":      onePage(255, 0, 248, 0, 128, 0),
		"the first form for three":      onePage(255, 0, 248, 0, 2, 0, 0, 0),
		"two bytes in the first form":   onePage(255, 0, 249, 0, 0, 1, 0, 1),
		"pieces that are not longest":   onePage(slices.Concat([]byte{126}, mixed(127), []byte{127}, mixed(255)[127:], []byte{0, 9})...),
		"rights 8":                      changedIn(full, 6, 8),
		"too many pages":                summed(tooManyPages...),
		"a page beyond the last":        changedIn(full, 5, 128, 128, 128, 8),
		"a page of the heap":            summed('C', 'N', 'R', 'R', 1, 5, 3, 255, 0, 251, 0, 0, 0, 5, 1, 0, 0, 0, 0),
		"no pages, though many follow":  changed(4, 255, 255, 255, 255, 15),
		"turns without end":             changed(22, 255, 255, 255, 255, 15),
		"a text":                        []byte(strings.Repeat("CNRR", 100)),
	} {
		if got, err := runs.Read(x); err != api.ErrBytes || !sameRecord(got, api.Record{}) {
			t.Errorf("%s: %d, %v", name, err, got)
		}
	}
	if got, err := runs.Read(changed(4, 0)); err != api.OK || !sameRecord(got, r) {
		t.Errorf("what is not changed: %d", err)
	}
	if got, err := runs.Read(changedIn(full, 6, 7)); err != api.OK || got.Setup.Pages[0].Rights != 7 {
		t.Errorf("other rights: %d", err)
	}
}

// changedIn is the bytes of a record with others in the place of one, and the sum that belongs to them.
func changedIn(b []byte, at int, to ...byte) []byte {
	return summed(slices.Concat(b[:at], to, b[at+1:len(b)-4])...)
}

// P9.4: two pages of the same number, or out of order, are no pages of a record.
func TestReadPagesInOrder(t *testing.T) {
	for _, c := range []struct {
		numbers [2]byte
		want    api.Errno
	}{{[2]byte{5, 6}, api.OK}, {[2]byte{5, 5}, api.ErrBytes}, {[2]byte{6, 5}, api.ErrBytes}} {
		b := []byte{'C', 'N', 'R', 'R', 2}
		for _, n := range c.numbers {
			b = append(b, n, 3, 255, 0, 251, 0)
		}
		if _, err := runs.Read(summed(append(b, 0, 0, 1, 0, 0, 0, 0, 0)...)); err != c.want {
			t.Errorf("pages %v: %d, want %d", c.numbers, err, c.want)
		}
	}
}

// P9.11: what is written is read back, and nothing else is read as the same record.
func TestReadBack(t *testing.T) {
	records(t, 60, func(seed uint64, r api.Record) {
		rnd := random(seed)
		b := written(t, r)
		wantBytes(t, r, b)
		for range 40 {
			x := slices.Clone(b)
			switch i := rnd.IntN(len(b)); rnd.IntN(3) {
			case 0:
				x[i] ^= byte(1 + rnd.IntN(255))
			case 1:
				x = x[:i]
			case 2:
				x = append(x, mixed(1+rnd.IntN(5))...)
			}
			wantAnother(t, seed, x, r)
			// With a sum that is right, too, they are another record, or none.
			wantAnother(t, seed, summed(x[:max(0, len(x)-4)]...), r)
		}
	})
}

// wantAnother holds that bytes are those of another record, or of none.
func wantAnother(t *testing.T, seed uint64, b []byte, r api.Record) {
	t.Helper()
	got, err := runs.Read(b)
	if bytes.Equal(b, written(t, r)) {
		return
	}
	if err != api.OK && err != api.ErrBytes || err == api.OK && (sameRecord(got, r) || !bytes.Equal(written(t, got), b)) {
		t.Fatalf("seed %d: %d, %v", seed, err, got.Turns)
	}
}

// P9.4: random bytes behind a mark are read without harm.
func TestReadRandom(t *testing.T) {
	for seed := range uint64(3000) {
		r := random(seed)
		b := []byte("CNRR")
		for range r.IntN(200) {
			b = append(b, pick(r, 0, 1, 2, 255, byte(r.Uint32())))
		}
		b = summed(b...)
		if got, err := runs.Read(b); err == api.OK && !bytes.Equal(written(t, got), b) || err != api.OK && err != api.ErrBytes {
			t.Fatalf("%v: %d", b, err)
		}
	}
}
