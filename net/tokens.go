package net

import (
	"strings"
)

// tokens gives the tokens of a text, one after the other. A byte with which none begins is a token of its own, that can stand nowhere.
// Behind the last one the empty text comes.
type tokens struct {
	rest string
}

// look is the next token, which stays ahead.
func (t *tokens) look() string {
	t.rest = strings.TrimLeft(t.rest, " \n\t")
	if t.rest == "" {
		return ""
	}
	goesOn := func(c byte) bool { return false }
	switch first := t.rest[0]; {
	case isLetter(first):
		goesOn = goesOnWord
	case isDigit(first):
		goesOn = goesOnNumber
	}
	end := 1
	for end < len(t.rest) && goesOn(t.rest[end]) {
		end++
	}
	return t.rest[:end]
}

func (t *tokens) next() string {
	token := t.look()
	t.rest = t.rest[len(token):]
	return token
}

func goesOnNumber(c byte) bool {
	return isDigit(c) || c == '.' || c == '/'
}

func isNumber(token string) bool {
	return token != "" && isDigit(token[0])
}
