package script

import (
	"strings"

	"augur/api"
)

// tokens gives the tokens of a text, one after the other. A byte with which none begins is a token of its own, that can stand nowhere.
// Behind the last one the empty text comes.
type tokens struct {
	rest string
}

// look is the next token, which stays ahead.
func (t *tokens) look() string {
	t.rest = strings.TrimLeft(t.rest, " \n\t")
	return t.rest[:firstEnd(t.rest)]
}

func (t *tokens) next() string {
	token := t.look()
	t.rest = t.rest[len(token):]
	return token
}

// firstEnd is where the token ends with which s begins.
func firstEnd(s string) int {
	switch {
	case s == "":
		return 0
	case isLetter(s[0]):
		return runOf(s, goesOnName)
	case isDigit(s[0]):
		return runOf(s, isDigit)
	case len(s) > 1 && isLongSign(s[:2]):
		return 2
	}
	return 1
}

// runOf is how many bytes of s, from the first on, are of a kind.
func runOf(s string, is func(c byte) bool) int {
	for i := range len(s) {
		if !is(s[i]) {
			return i
		}
	}
	return len(s)
}

func isLetter(c byte) bool {
	return c >= 'a' && c <= 'z'
}

func isDigit(c byte) bool {
	return c >= '0' && c <= '9'
}

func goesOnName(c byte) bool {
	return isLetter(c) || isDigit(c) || c == '_'
}

func isLongSign(s string) bool {
	return s == "==" || s == "!=" || s == "<=" || s == ">="
}

// isWord says whether s is kept for programs themselves.
func isWord(s string) bool {
	switch s {
	case "fn", "let", "if", "else", "repeat", "observe", "return", "flip", "range", "pick", "or", "and", "not":
		return true
	}
	return false
}

func isName(s string) bool {
	return s != "" && len(s) <= api.MaxName && isLetter(s[0]) && runOf(s, goesOnName) == len(s) && !isWord(s)
}

// isNumber is for tokens.
func isNumber(token string) bool {
	return token == "0" || token != "" && isDigit(token[0]) && token[0] != '0'
}
