package asm_test

import (
	"bytes"
	"slices"
	"strings"
	"testing"

	"candling/api"
	"candling/asm"
)

func name(s string, at int) api.Token    { return api.Token{Kind: api.TkName, S: s, At: at} }
func number(n, at int) api.Token         { return api.Token{Kind: api.TkNumber, N: n, At: at} }
func literal(s string, at int) api.Token { return api.Token{Kind: api.TkString, S: s, At: at} }
func sign(s string, at int) api.Token    { return api.Token{Kind: api.TkSign, S: s, At: at} }

// P2.1: lines, and their tokens.
func TestTokens(t *testing.T) {
	long := "a" + strings.Repeat("b", 39)
	for _, c := range []struct {
		line string
		want []api.Token
	}{
		{"", nil},
		{" \t \t", nil},
		{"; 'x #\" 08", nil},
		{"a: add r1, 0x1F ; x", []api.Token{name("a", 0), sign(":", 1), name("add", 3), name("r1", 7), sign(",", 9), number(31, 11)}},
		{`'\n' "a\"b"`, []api.Token{number(10, 0), literal(`a"b`, 5)}},
		{"a;b", []api.Token{name("a", 0)}},
		{"\ta\tb ", []api.Token{name("a", 1), name("b", 3)}},
		{"a_.$Z9 _ . .x _9 A$", []api.Token{name("a_.$Z9", 0), name("_", 7), name(".", 9), name(".x", 11), name("_9", 14), name("A$", 17)}},
		{"z.Z.azAZ09", []api.Token{name("z.Z.azAZ09", 0)}},
		{long, []api.Token{name(long, 0)}},
		{"0 1 9 10 4294967295", []api.Token{number(0, 0), number(1, 2), number(9, 4), number(10, 6), number(1<<32-1, 9)}},
		{"0x0 0x00000001 0xaBcDeF 0xFFFFFFFF 0xffffffff", []api.Token{number(0, 0), number(1, 4), number(0xabcdef, 15), number(1<<32-1, 24), number(1<<32-1, 35)}},
		{",:[]+-", []api.Token{sign(",", 0), sign(":", 1), sign("[", 2), sign("]", 3), sign("+", 4), sign("-", 5)}},
		{"[r1-4]", []api.Token{sign("[", 0), name("r1", 1), sign("-", 3), number(4, 4), sign("]", 5)}},
		{`'a' ' ' '~' '"' ';' '0'`, []api.Token{number(97, 0), number(32, 4), number(126, 8), number(34, 12), number(59, 16), number(48, 20)}},
		{`'\n''\t''\0''\\''\"''\''`, []api.Token{number(10, 0), number(9, 4), number(0, 8), number(92, 12), number(34, 16), number(39, 20)}},
		{`'\x00''\xff''\xFa'`, []api.Token{number(0, 0), number(255, 6), number(250, 12)}},
		{`"" "'" ";" " "`, []api.Token{literal("", 0), literal("'", 3), literal(";", 7), literal(" ", 11)}},
		{`"\n\t\0\\\"\'\x41\xe9z"`, []api.Token{literal("\n\t\x00\\\"'A\xe9z", 0)}},
		{`"a""b"c'd'1`, []api.Token{literal("a", 0), literal("b", 3), name("c", 6), number(100, 7), number(1, 10)}},
		{`1"x"`, []api.Token{number(1, 0), literal("x", 1)}},
		{"1+a", []api.Token{number(1, 0), sign("+", 1), name("a", 2)}},
	} {
		l, at, err := asm.Tokens(c.line)
		if err != api.OK || at != 0 || !slices.Equal(l, c.want) {
			t.Errorf("Tokens of %q: %v, %d, %d; want %v", c.line, l, at, err, c.want)
		}
	}
}

// P2.1: the first byte that no line has comes ahead of the first token that is none.
func TestNoTokens(t *testing.T) {
	for _, c := range []struct {
		line string
		at   int
		err  api.Errno
	}{
		{"1 08", 2, api.ErrToken},
		{"a#b", 1, api.ErrToken},
		{"\n", 0, api.ErrSource},
		{"ab\n", 2, api.ErrSource},
		{"a\x7f", 1, api.ErrSource},
		{"a\x1f", 1, api.ErrSource},
		{"\x00", 0, api.ErrSource},
		{"a \xe9", 2, api.ErrSource},
		{"a é", 2, api.ErrSource},
		{"; a\rb\x7f", 3, api.ErrSource},
		{"\"\x80\"", 1, api.ErrSource},
		{"08 # \x7f", 5, api.ErrSource},
		{"#", 0, api.ErrToken},
		{"$", 0, api.ErrToken},
		{"$a", 0, api.ErrToken},
		{"a $", 2, api.ErrToken},
		{"(", 0, api.ErrToken},
		{"a*b", 1, api.ErrToken},
		{"a=b", 1, api.ErrToken},
		{"{", 0, api.ErrToken},
		{"@", 0, api.ErrToken},
		{"`", 0, api.ErrToken},
		{"^", 0, api.ErrToken},
		{"/", 0, api.ErrToken},
		{"\\", 0, api.ErrToken},
		{"~", 0, api.ErrToken},
		{" a" + strings.Repeat("b", 40), 1, api.ErrToken},
		{"00", 0, api.ErrToken},
		{"01", 0, api.ErrToken},
		{"4294967296", 0, api.ErrToken},
		{"99999999999999999999999", 0, api.ErrToken},
		{"1a", 0, api.ErrToken},
		{"1_0", 0, api.ErrToken},
		{"1.5", 0, api.ErrToken},
		{"1$", 0, api.ErrToken},
		{"0x", 0, api.ErrToken},
		{"0X1", 0, api.ErrToken},
		{"0xg", 0, api.ErrToken},
		{"0x1g", 0, api.ErrToken},
		{"0x1_0", 0, api.ErrToken},
		{"0x000000001", 0, api.ErrToken},
		{"0x123456789", 0, api.ErrToken},
		{"00x1", 0, api.ErrToken},
		{"0b1", 0, api.ErrToken},
		{"0o7", 0, api.ErrToken},
		{"'", 0, api.ErrToken},
		{"''", 0, api.ErrToken},
		{"'''", 0, api.ErrToken},
		{`'\'`, 0, api.ErrToken},
		{`'\`, 0, api.ErrToken},
		{"'a", 0, api.ErrToken},
		{"'ab'", 0, api.ErrToken},
		{"',:", 0, api.ErrToken},
		{"'\t'", 0, api.ErrToken},
		{`'\a'`, 0, api.ErrToken},
		{`'\N'`, 0, api.ErrToken},
		{`'\1'`, 0, api.ErrToken},
		{`'\x'`, 0, api.ErrToken},
		{`'\x4'`, 0, api.ErrToken},
		{`'\x4g'`, 0, api.ErrToken},
		{`'\x041'`, 0, api.ErrToken},
		{`'\X41'`, 0, api.ErrToken},
		{`'\x41`, 0, api.ErrToken},
		{`"`, 0, api.ErrToken},
		{`"a`, 0, api.ErrToken},
		{`a "a\"`, 2, api.ErrToken},
		{`"\`, 0, api.ErrToken},
		{`"\q"`, 0, api.ErrToken},
		{`"\x4"`, 0, api.ErrToken},
		{`"\x`, 0, api.ErrToken},
		{`"\x+1"`, 0, api.ErrToken},
		{"\"a\tb\"", 0, api.ErrToken},
		{`"a;b`, 0, api.ErrToken},
		{`"a" "b`, 4, api.ErrToken},
	} {
		l, at, err := asm.Tokens(c.line)
		if err != c.err || at != c.at || len(l) != 0 {
			t.Errorf("Tokens of %q: %v, %d, %d; want %d, %d", c.line, l, at, err, c.at, c.err)
		}
	}
}

// P2.1, P2.12: all bytes.
func TestQuote(t *testing.T) {
	for c := range 256 {
		want := string(rune(c))
		switch {
		case c == 10:
			want = `\n`
		case c == 9:
			want = `\t`
		case c == 0:
			want = `\0`
		case c == '"' || c == '\\':
			want = `\` + want
		case c < 32 || c > 126:
			want = `\x` + string("0123456789abcdef"[c>>4]) + string("0123456789abcdef"[c&15])
		}
		want = `"` + want + `"`
		q := asm.Quote([]byte{byte(c)})
		if q != want {
			t.Errorf("Quote of %d: %s, want %s", c, q, want)
		}
		wantUnquoted(t, q, []byte{byte(c)})
	}
	if q := asm.Quote([]byte{97, 34, 10, 200}); q != `"a\"\n\xc8"` {
		t.Errorf("Quote of the chapter's example: %s", q)
	}
	for _, b := range [][]byte{nil, {}} {
		if q := asm.Quote(b); q != `""` {
			t.Errorf("Quote of nothing: %s", q)
		}
	}
}

func wantUnquoted(t *testing.T, s string, want []byte) {
	t.Helper()
	if b, err := asm.Unquote(s); err != api.OK || !bytes.Equal(b, want) {
		t.Errorf("Unquote of %s: %v, %d", s, b, err)
	}
}

// P2.1: literals that Quote does not make, and what is no literal.
func TestUnquote(t *testing.T) {
	wantUnquoted(t, `""`, nil)
	wantUnquoted(t, `"\'\x41\x0A'"`, []byte("'A\n'"))
	wantUnquoted(t, `";"`, []byte(";"))
	wantUnquoted(t, `"`+strings.Repeat(`\x7e`, 30000)+`"`, bytes.Repeat([]byte{126}, 30000))
	for _, s := range []string{
		"", " ", `"`, `a`, `"a`, `a"`, ` "a"`, `"a" `, `"a""b"`, `"a";`, `"a"b"`, `'a'`, `"\"`, `"\q"`, `"\x"`, `"\x1"`, `"\x1g"`, `"\x_1"`,
		"\"\t\"", "\"\n\"", "\"\x7f\"", "\"\xe9\"", "\"é\"", "\"\x00\"", `\"`, `\`, `"\x1`, `"\`,
	} {
		if b, err := asm.Unquote(s); err != api.ErrToken || len(b) != 0 {
			t.Errorf("Unquote of %q: %v, %d", s, b, err)
		}
	}
}

// P2.12: literals, alone and in lines.
func TestLiterals(t *testing.T) {
	r := random(1)
	for range 3000 {
		b := make([]byte, r.IntN(30))
		for i := range b {
			b[i] = byte(pick(r, r.IntN(256), 32+r.IntN(95), int(pick(r, '"', '\\', '\'', 'x', 'n', '\n', '\t', 0))))
		}
		given := slices.Clone(b)
		q := asm.Quote(b)
		if !bytes.Equal(b, given) {
			t.Fatalf("Quote has changed %v to %v", given, b)
		}
		u, err := asm.Unquote(q)
		if err != api.OK || !bytes.Equal(u, b) {
			t.Fatalf("Unquote of %s: %v, %d; want %v", q, u, err, b)
		}
		if again := asm.Quote(u); again != q {
			t.Fatalf("Quote of Unquote of %s: %s", q, again)
		}
		l, at, err := asm.Tokens("x: .ascii " + q + ",'a';" + q)
		want := []api.Token{name("x", 0), sign(":", 1), name(".ascii", 3), literal(string(b), 10), sign(",", 10+len(q)), number(97, 11+len(q))}
		if err != api.OK || at != 0 || !slices.Equal(l, want) {
			t.Fatalf("Tokens with %s: %v, %d, %d", q, l, at, err)
		}
		wantBytes(t, ".ascii "+q, b...)
	}
}

// P2.1: numbers as texts.
func TestNumbers(t *testing.T) {
	r := random(2)
	for range 2000 {
		n := int(r.Uint32() >> r.IntN(32))
		for _, s := range spellings(r, n) {
			if l, _, err := asm.Tokens(s); err != api.OK || len(l) != 1 || l[0] != number(n, 0) {
				t.Fatalf("Tokens of %s: %v, %d", s, l, err)
			}
		}
	}
}
