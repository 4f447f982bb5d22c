package program

import (
	"strings"

	"secrets/api"
)

// kind is what sort of word a word is.
type kind int

const (
	endWord    kind = iota // the text's end
	nameWord               // a name
	numberWord             // a number
	fixedWord              // a sign, or one of the words that are no names
)

// word is a word where it stands in the text.
type word struct {
	kind kind
	text string
	at   int
}

// wordFrom is the first word that begins at the byte or behind it.
func wordFrom(text string, at int) word {
	for at < len(text) && (text[at] == ' ' || text[at] == '\n') {
		at++
	}
	if at == len(text) {
		return word{kind: endWord, at: at}
	}
	switch c := text[at]; {
	case isLetter(c):
		return nameAt(text, at)
	case isDigit(c):
		return numberAt(text, at)
	}
	return signAt(text, at)
}

func nameAt(text string, at int) word {
	w := word{kind: nameWord, text: run(text[at:], isLetterOrDigit), at: at}
	if len(w.text) > api.MaxName {
		throw(api.ErrName, at)
	}
	if isKept(w.text) {
		w.kind = fixedWord
	}
	return w
}

func numberAt(text string, at int) word {
	w := word{kind: numberWord, text: run(text[at:], isDigit), at: at}
	if len(w.text) > api.MaxDigits {
		throw(api.ErrNumber, at)
	}
	return w
}

func signAt(text string, at int) word {
	if !isSign(text[at]) {
		throw(api.ErrChar, at)
	}
	size := 1
	if strings.HasPrefix(text[at:], "==") {
		size = 2
	}
	return word{kind: fixedWord, text: text[at : at+size], at: at}
}

// run is the bytes of that kind with which the text begins, as many as there are.
func run(text string, is func(byte) bool) string {
	k := 0
	for k < len(text) && is(text[k]) {
		k++
	}
	return text[:k]
}

func isLetter(c byte) bool { return 'a' <= c && c <= 'z' }

func isDigit(c byte) bool { return '0' <= c && c <= '9' }

func isLetterOrDigit(c byte) bool { return isLetter(c) || isDigit(c) }

func isSign(c byte) bool { return strings.IndexByte(";:{}()+-*/<=", c) >= 0 }

// isKept: the language keeps the word for itself, so it is no name.
func isKept(text string) bool {
	switch text {
	case "actor", "over", "in", "out", "var", "do", "get", "put", "if", "else", "while", "free", "by":
		return true
	}
	return false
}
