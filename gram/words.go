package gram

import (
	"strings"

	"frisket/api"
)

const (
	longest = 20           // how long a name, a constructor or a literal may be
	ours    = "lit"        // how the names of literals begin, and no others
	special = `|*+?()[].\` // what means something in an expression
	digits  = "0123456789abcdef"
)

// The kinds of words that tell parts.
const (
	aLiteral = iota
	aClass
	aSort
)

// word is a part as it is written.
type word struct {
	kind  int
	text  string // a literal's text, or a name
	level int    // from which on a sort stands
}

// wordOf is a part's word.
func wordOf(s string) (word, bool) {
	if text, ok := strings.CutPrefix(s, "'"); ok {
		return word{kind: aLiteral, text: text}, text != "" && len(text) <= longest
	}
	name, digit, ok := strings.Cut(s, ":")
	if !ok {
		return word{kind: aClass, text: name}, isName(name)
	}
	level, ok := levelOf(digit)
	return word{kind: aSort, text: name, level: level}, ok && isName(name)
}

// wordsOf is the words of parts.
func wordsOf(parts []string) ([]word, bool) {
	if len(parts) > api.MaxParts {
		return nil, false
	}
	var l []word
	for _, s := range parts {
		w, ok := wordOf(s)
		if !ok {
			return nil, false
		}
		l = append(l, w)
	}
	return l, true
}

// standForOne tells whether just one of some parts isn't fixed, and that is a sort.
func standForOne(l []word) bool {
	sorts := 0
	for _, w := range l {
		if w.kind == aClass {
			return false
		}
		if w.kind == aSort {
			sorts++
		}
	}
	return sorts == 1
}

// levelOf is the level that is written so.
func levelOf(s string) (int, bool) {
	if len(s) != 1 || !isDigit(s[0]) {
		return 0, false
	}
	return int(s[0] - '0'), true
}

// consOf is the constructor that is written so.
func consOf(s string) (string, bool) {
	if s == "-" {
		return "", true
	}
	return s, isOf(s, isBig, func(c byte) bool { return isSmall(c) || isBig(c) || isDigit(c) })
}

// isName tells whether a class, or a sort, may be named so.
func isName(s string) bool {
	return !strings.HasPrefix(s, ours) && isOf(s, isSmall, func(c byte) bool { return isSmall(c) || isDigit(c) })
}

// isOf tells whether a word is of some bytes, begins with one of some of them, and isn't too long.
func isOf(s string, begins, goesOn func(c byte) bool) bool {
	if s == "" || len(s) > longest || !begins(s[0]) {
		return false
	}
	for _, c := range []byte(s) {
		if !goesOn(c) {
			return false
		}
	}
	return true
}

// isSmall tells whether a byte is a small letter.
func isSmall(c byte) bool {
	return c >= 'a' && c <= 'z'
}

// isBig tells whether a byte is a big letter.
func isBig(c byte) bool {
	return c >= 'A' && c <= 'Z'
}

// isDigit tells whether a byte is a digit.
func isDigit(c byte) bool {
	return c >= '0' && c <= '9'
}

// expression is how one is written that means a text alone.
func expression(text string) string {
	var l []byte
	for _, c := range []byte(text) {
		switch {
		case strings.IndexByte(special, c) >= 0:
			l = append(l, '\\', c)
		case c > ' ' && c <= '~':
			l = append(l, c)
		default:
			l = append(l, '\\', 'x', digits[c/16], digits[c%16])
		}
	}
	return string(l)
}
