package migrate

import (
	"strings"

	"arbor/api"
	"arbor/value"
	"arbor/words"
)

// kindWords: by kind, the word that the text of an edit begins with.
var kindWords = [...]string{
	api.EdAdd:      "add",
	api.EdDrop:     "drop",
	api.EdRename:   "rename",
	api.EdOptional: "optional",
	api.EdPlain:    "plain",
}

// mostWords: of an edit's text.
const mostWords = 3

// wordsIn: the words of a piece of a text; of a piece with more than an edit has no more than one too many.
func wordsIn(piece string) []string {
	var list []string
	for word := range strings.FieldsFuncSeq(piece, func(r rune) bool { return r == ' ' }) {
		list = append(list, word)
		if len(list) > mostWords {
			break
		}
	}
	return list
}

// wordsOf: those of the text of an edit, of one that is not well made too: then they tell another one, or none.
func wordsOf(e api.Edit) []string {
	switch e.Kind {
	case api.EdAdd:
		field, _ := value.PrintSchema(api.Schema{Fields: []api.Field{e.Field}})
		return []string{kindWords[e.Kind], field}
	case api.EdRename:
		return []string{kindWords[e.Kind], e.Name, e.To}
	case api.EdDrop, api.EdOptional, api.EdPlain:
		return []string{kindWords[e.Kind], e.Name}
	}
	return nil
}

// editOf: the edit that some words tell, if they tell one.
func editOf(list []string) (api.Edit, bool) {
	if len(list) == 0 {
		return api.Edit{}, false
	}
	kind, behind := kindCalled(list[0]), list[1:]
	switch kind {
	case api.EdAdd:
		if len(behind) == 1 {
			return addOf(behind[0])
		}
	case api.EdRename:
		if len(behind) == 2 && areNames(behind) {
			return api.Edit{Kind: kind, Name: strings.Clone(behind[0]), To: strings.Clone(behind[1])}, true
		}
	case api.EdDrop, api.EdOptional, api.EdPlain:
		if len(behind) == 1 && areNames(behind) {
			return api.Edit{Kind: kind, Name: strings.Clone(behind[0])}, true
		}
	}
	return api.Edit{}, false
}

// addOf: the add of the field that a word tells: it is the text of a schema that has no other one.
func addOf(word string) (api.Edit, bool) {
	s, e := value.ParseSchema(word)
	if e != api.OK || len(s.Fields) != 1 {
		return api.Edit{}, false
	}
	return api.Edit{Kind: api.EdAdd, Field: s.Fields[0]}, true
}

func areNames(list []string) bool {
	for _, word := range list {
		if !words.Name(word) {
			return false
		}
	}
	return true
}

// kindCalled: the kind with that word; 0, if there is none.
func kindCalled(word string) int {
	for kind, its := range kindWords {
		if its == word {
			return kind
		}
	}
	return 0
}

// wellMade: is an edit just what its words tell?
func wellMade(e api.Edit) bool {
	told, ok := editOf(wordsOf(e))
	return ok && told == e
}
