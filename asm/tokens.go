package asm

import (
	"iter"
	"strconv"
	"strings"

	"candling/api"
)

// Tokens returns the tokens of a line, or the index of the first byte that begins none.
func Tokens(line string) (l []api.Token, at int, err api.Errno) {
	for i := range len(line) {
		if !isLineByte(line[i]) {
			return nil, i, api.ErrSource
		}
	}
	for t := range tokensOf(line) {
		if t.Kind == noToken {
			return nil, t.At, api.ErrToken
		}
		l = append(l, t)
	}
	return l, 0, api.OK
}

// noToken is the kind of what stands where a token should and is none.
const noToken = 0

// tokensOf goes through the tokens of a line; the first one that is none is the last one.
func tokensOf(line string) iter.Seq[api.Token] {
	return func(yield func(api.Token) bool) {
		at := 0
		for at < len(line) && line[at] != ';' {
			if line[at] == ' ' || line[at] == '\t' {
				at++
				continue
			}
			t, size := scan(line[at:])
			t.At = at
			if !yield(t) || t.Kind == noToken {
				return
			}
			at += size
		}
	}
}

// scan returns the token at the beginning of s, and how many bytes it has.
func scan(s string) (api.Token, int) {
	switch c := s[0]; {
	case isNameStart(c):
		return scanName(s)
	case isDigit(c):
		return scanNumber(s)
	case c == '\'':
		return scanCharacter(s)
	case c == '"':
		return scanString(s)
	case strings.IndexByte(",:[]+-", c) >= 0:
		return api.Token{Kind: api.TkSign, S: s[:1]}, 1
	}
	return api.Token{}, 0
}

func scanName(s string) (api.Token, int) {
	word := wordOf(s)
	if len(word) > api.MaxName {
		return api.Token{}, 0
	}
	return api.Token{Kind: api.TkName, S: word}, len(word)
}

func scanNumber(s string) (api.Token, int) {
	word := wordOf(s)
	n, is := numberOf(word)
	if !is {
		return api.Token{}, 0
	}
	return api.Token{Kind: api.TkNumber, N: n}, len(word)
}

// numberOf returns the number that a word beginning with a digit is.
func numberOf(word string) (int, bool) {
	digits, base := word, 10
	if rest, found := strings.CutPrefix(word, "0x"); found {
		digits, base = rest, 16
	}
	if base == 16 && len(digits) > 8 || base == 10 && len(digits) > 1 && digits[0] == '0' {
		return 0, false
	}
	n, err := strconv.ParseUint(digits, base, 32)
	if err != nil {
		return 0, false
	}
	return int(n), true
}

func scanCharacter(s string) (api.Token, int) {
	c, size := scanByte(s[1:], '\'')
	if size == 0 || !strings.HasPrefix(s[1+size:], "'") {
		return api.Token{}, 0
	}
	return api.Token{Kind: api.TkNumber, N: int(c)}, size + 2
}

func scanString(s string) (api.Token, int) {
	b, size := scanQuoted(s)
	if size == 0 {
		return api.Token{}, 0
	}
	return api.Token{Kind: api.TkString, S: string(b)}, size
}

// scanQuoted returns the bytes of the string token at the beginning of s, and how many bytes the token has, or 0 if there is none.
func scanQuoted(s string) ([]byte, int) {
	if !strings.HasPrefix(s, `"`) {
		return nil, 0
	}
	b := []byte{}
	at := 1
	for {
		c, size := scanByte(s[at:], '"')
		if size == 0 {
			break
		}
		b = append(b, c)
		at += size
	}
	if !strings.HasPrefix(s[at:], `"`) {
		return nil, 0
	}
	return b, at + 1
}

// scanByte returns the byte for which the beginning of s stands between two quotes, and how many bytes this beginning has, or 0 if there is none.
func scanByte(s string, quote byte) (byte, int) {
	switch {
	case s == "" || s[0] == quote || !isPrinted(s[0]):
		return 0, 0
	case s[0] == '\\':
		return scanEscape(s)
	}
	return s[0], 1
}

// scanEscape is scanByte where s begins with a backslash.
func scanEscape(s string) (byte, int) {
	if len(s) < 2 {
		return 0, 0
	}
	switch c := s[1]; c {
	case 'n':
		return '\n', 2
	case 't':
		return '\t', 2
	case '0':
		return 0, 2
	case '\\', '"', '\'':
		return c, 2
	case 'x':
		return scanHexEscape(s)
	}
	return 0, 0
}

func scanHexEscape(s string) (byte, int) {
	const size = 4
	if len(s) < size {
		return 0, 0
	}
	n, err := strconv.ParseUint(s[2:size], 16, 8)
	if err != nil {
		return 0, 0
	}
	return byte(n), size
}

// Quote returns the string literal of bytes.
func Quote(b []byte) string {
	q := []byte{'"'}
	for _, c := range b {
		q = appendQuoted(q, c)
	}
	return string(append(q, '"'))
}

func appendQuoted(q []byte, c byte) []byte {
	const digits = "0123456789abcdef"
	switch {
	case c == '\n':
		return append(q, `\n`...)
	case c == '\t':
		return append(q, `\t`...)
	case c == 0:
		return append(q, `\0`...)
	case !isPrinted(c):
		return append(q, '\\', 'x', digits[c/16], digits[c%16])
	case c == '"' || c == '\\':
		q = append(q, '\\')
		fallthrough
	default:
		return append(q, c)
	}
}

// Unquote returns the bytes of a string literal.
func Unquote(s string) ([]byte, api.Errno) {
	b, size := scanQuoted(s)
	if size == 0 || size < len(s) {
		return nil, api.ErrToken
	}
	return b, api.OK
}

// wordOf returns the bytes that s begins with and that a name or a number may have.
func wordOf(s string) string {
	n := 0
	for n < len(s) && isNamePart(s[n]) {
		n++
	}
	return s[:n]
}

// isName reports whether s is a name.
func isName(s string) bool {
	return s != "" && len(s) <= api.MaxName && isNameStart(s[0]) && wordOf(s) == s
}

// isFileName reports whether s can be the name of a file.
func isFileName(s string) bool {
	if len(s) < 1 || len(s) > 100 {
		return false
	}
	for i := range len(s) {
		if s[i] == ' ' || !isPrinted(s[i]) {
			return false
		}
	}
	return true
}

func isDigit(c byte) bool { return c >= '0' && c <= '9' }

func isNameStart(c byte) bool {
	return c >= 'a' && c <= 'z' || c >= 'A' && c <= 'Z' || c == '_' || c == '.'
}

func isNamePart(c byte) bool { return isNameStart(c) || isDigit(c) || c == '$' }

func isPrinted(c byte) bool { return c >= 32 && c <= 126 }

// isLineByte reports whether a line may have a byte.
func isLineByte(c byte) bool { return isPrinted(c) || c == '\t' }
