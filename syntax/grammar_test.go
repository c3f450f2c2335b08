package syntax_test

import (
	"regexp"
	"slices"
	"strings"

	"arbor/api"
)

// The chapter's grammar, word by word (but that "the great number" is one word here).
const bookGrammar = `
program   = list .
list      = [ statement { ";" statement } [ ";" ] ] .
block     = "{" list "}" .
statement = name "=" expr | name "+=" expr | name "min" "=" expr | name "max" "=" expr
          | "clear" name | "new" | "delete" | if .
if        = "if" expr block [ "else" ( block | if ) ] .

expr      = and { "or" and } .
and       = not { "and" not } .
not       = "not" not | compared .
compared  = else [ ( "==" | "!=" | "<" | "<=" | ">" | ">=" ) else ] .
else      = sum [ "??" else ] .
sum       = product { ( "+" | "-" ) product } .
product   = unary { "*" unary } .
unary     = "-" number | "-" great | "-" unary | primary .
primary   = number | string | "true" | "false" | name | "has" name | "here"
          | "min" "(" expr "," expr ")" | "max" "(" expr "," expr ")" | "cat" "(" expr "," expr ")"
          | "len" "(" expr ")" | "pick" "(" expr "," expr "," expr ")" | "(" expr ")" .
`

// grammar: plain rules by what they make. Braces, brackets and parentheses have become names of their own.
type grammar struct {
	rules   map[string][][]string
	nothing map[string]bool // what may be no token at all
	made    int
}

var (
	ofPrograms = readGrammar("program")
	ofExprs    = readGrammar("expr")
)

// readGrammar: the chapter's grammar; what stands for whole is called "whole".
func readGrammar(whole string) *grammar {
	g := &grammar{rules: map[string][][]string{"whole": {{whole}}}, nothing: map[string]bool{}}
	words := regexp.MustCompile(`"[^"]+"|\S+`).FindAllString(bookGrammar, -1)
	for len(words) > 0 {
		head := words[0]
		g.rules[head], words = g.ways(words[2:])
		words = words[1:]
	}
	for grown := true; grown; {
		grown = false
		for head, ways := range g.rules {
			if !g.nothing[head] && slices.ContainsFunc(ways, g.mayBeNothing) {
				g.nothing[head], grown = true, true
			}
		}
	}
	return g
}

func (g *grammar) mayBeNothing(way []string) bool {
	return !slices.ContainsFunc(way, func(part string) bool { return !g.nothing[part] })
}

// ways: the ways parted by |, and the words from the one on that ends them.
func (g *grammar) ways(words []string) ([][]string, []string) {
	var all [][]string
	for {
		var way []string
		for !slices.Contains([]string{"|", ".", ")", "]", "}"}, words[0]) {
			var part string
			part, words = g.part(words)
			way = append(way, part)
		}
		all = append(all, way)
		if words[0] != "|" {
			return all, words
		}
		words = words[1:]
	}
}

func (g *grammar) part(words []string) (string, []string) {
	opened := words[0]
	if !slices.Contains([]string{"(", "[", "{"}, opened) {
		return opened, words[1:]
	}
	g.made++
	name := opened + strings.Repeat("'", g.made)
	ways, rest := g.ways(words[1:])
	if opened == "{" {
		for i := range ways {
			ways[i] = append(ways[i], name)
		}
	}
	if opened != "(" {
		ways = append(ways, nil)
	}
	g.rules[name] = ways
	return name, rest[1:]
}

// A stage is how far a way has gone that began behind so many tokens.
type stage struct {
	head      string
	way, done int
	from      int
}

// walk: every stage of every way that the tokens so far leave open (as Earley has it).
type walk struct {
	of   *grammar
	sets [][]stage
}

func walkOf(g *grammar) *walk {
	w := &walk{of: g}
	w.add([]stage{{head: "whole"}})
	return w
}

// goOn: the next token is taken if there's a text that goes on with it.
func (w *walk) goOn(t api.Token) bool {
	var moved []stage
	for _, s := range w.sets[len(w.sets)-1] {
		if part, ok := w.awaited(s); ok && part == terminal(t) {
			s.done++
			moved = append(moved, s)
		}
	}
	if len(moved) > 0 {
		w.add(moved)
	}
	return len(moved) > 0
}

// back: as if the last token had not been taken.
func (w *walk) back() { w.sets = w.sets[:len(w.sets)-1] }

// whole: are the tokens so far a whole text?
func (w *walk) whole() bool {
	return slices.Contains(w.sets[len(w.sets)-1], stage{head: "whole", done: 1})
}

func (w *walk) awaited(s stage) (string, bool) {
	if way := w.of.rules[s.head][s.way]; s.done < len(way) {
		return way[s.done], true
	}
	return "", false
}

func (w *walk) add(set []stage) {
	here := len(w.sets)
	w.sets = append(w.sets, set)
	put := func(s stage) {
		if !slices.Contains(w.sets[here], s) {
			w.sets[here] = append(w.sets[here], s)
		}
	}
	for i := 0; i < len(w.sets[here]); i++ {
		s := w.sets[here][i]
		part, ok := w.awaited(s)
		if !ok {
			for _, outer := range w.sets[s.from] {
				if wanted, ok := w.awaited(outer); ok && wanted == s.head {
					outer.done++
					put(outer)
				}
			}
			continue
		}
		for way := range w.of.rules[part] {
			put(stage{head: part, way: way, from: here})
		}
		if w.of.nothing[part] {
			s.done++
			put(s)
		}
	}
}

// terminal: what the grammar calls a token.
func terminal(t api.Token) string {
	switch {
	case t.Kind == api.TokName:
		return "name"
	case t.Kind == api.TokString:
		return "string"
	case t.Kind == api.TokInt && t.N >= 0:
		return "number"
	case t.Kind == api.TokInt:
		return "great"
	}
	return `"` + t.Text + `"`
}

// bookPlace: where the tokens stop being the beginning of a text of the grammar, if they aren't a whole one.
func bookPlace(g *grammar, tokens []api.Token, length int) (place int, right bool) {
	w := walkOf(g)
	for _, t := range tokens {
		if !w.goOn(t) {
			return t.At, false
		}
	}
	return length, w.whole()
}
