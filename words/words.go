// Package words: the keywords and names that schemas and sources are written with.
package words

import "arbor/api"

// Keyword: is it a word of the upsert language, so that no field bears it as its name?
func Keyword(word string) bool {
	switch word {
	case "and", "cat", "clear", "delete", "else", "false", "has", "here", "if",
		"len", "max", "min", "new", "not", "or", "pick", "true":
		return true
	}
	return false
}

// Run: how many bytes at the head of a text are letters, digits and _.
func Run(text string) int {
	for place := range len(text) {
		if !inRun(text[place]) {
			return place
		}
	}
	return len(text)
}

// Name: may a field be called so? A text of any length is looked at no farther than a name may go.
func Name(text string) bool {
	if len(text) < 1 || len(text) > api.MaxName || digit(text[0]) {
		return false
	}
	return Run(text) == len(text) && !Keyword(text)
}

func inRun(c byte) bool {
	return 'a' <= c && c <= 'z' || 'A' <= c && c <= 'Z' || digit(c) || c == '_'
}

func digit(c byte) bool {
	return '0' <= c && c <= '9'
}
