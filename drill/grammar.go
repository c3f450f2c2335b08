package drill

import (
	"slices"
	"strings"

	"arbor/api"
	"arbor/lexer"
)

// ExprGrammar: of the expressions, word by word as chapter 8 has it (but that "the great number" is one word here).
const ExprGrammar = `
expr      = and { "or" and } .
and       = not { "and" not } .
not       = "not" not | compared .
compared  = else [ ( "==" | "!=" | "<" | "<=" | ">" | ">=" ) else ] .
else      = sum [ "??" else ] .
sum       = product { ( "+" | "-" ) product } .
product   = unary { "*" unary } .
unary     = "-" number | "-" great | "-" unary | primary .
primary   = number | string | "true" | "false" | name | "has" name | "here"
          | "min" "(" expr "," expr ")" | "max" "(" expr "," expr ")" | "cat" "(" expr "," expr ")"
          | "len" "(" expr ")" | "pick" "(" expr "," expr "," expr ")" | "(" expr ")" .
`

// Grammar: plain rules by what they make. Braces, brackets and parentheses have become names of their own.
type Grammar struct {
	rules   map[string][][]string
	nothing map[string]int // 1: it may be no token at all
	made    int
}

// whole: what the first rule of every grammar makes.
const whole = "whole"

// GrammarOf: the grammar of a text, as the chapters write them, with blanks between any two of its words; of all that it makes one thing is asked for.
func GrammarOf(text, asked string) *Grammar {
	g := &Grammar{rules: map[string][][]string{whole: {{asked}}}, nothing: map[string]int{}}
	words := strings.Fields(text)
	for len(words) > 0 {
		head := words[0]
		g.rules[head], words = g.ways(words[2:])
		words = words[1:]
	}
	for grown := true; grown; {
		grown = false
		for head, ways := range g.rules {
			if g.nothing[head] == 0 && slices.ContainsFunc(ways, g.mayBeNothing) {
				g.nothing[head], grown = 1, true
			}
		}
	}
	return g
}

func (g *Grammar) mayBeNothing(way []string) bool {
	return !slices.ContainsFunc(way, func(part string) bool { return g.nothing[part] == 0 })
}

// ways: the ways parted by |, and the words from the one on that ends them.
func (g *Grammar) ways(words []string) ([][]string, []string) {
	var all [][]string
	for {
		var way []string
		for !slices.Contains([]string{"|", ".", ")", "]", "}"}, words[0]) {
			var part string
			part, words = g.part(words)
			way = append(way, part)
		}
		all = append(all, way)
		if words[0] != "|" {
			return all, words
		}
		words = words[1:]
	}
}

func (g *Grammar) part(words []string) (string, []string) {
	opened := words[0]
	if !slices.Contains([]string{"(", "[", "{"}, opened) {
		return opened, words[1:]
	}
	g.made++
	name := opened + strings.Repeat("'", g.made)
	ways, rest := g.ways(words[1:])
	if opened == "{" {
		for i := range ways {
			ways[i] = append(ways[i], name)
		}
	}
	if opened != "(" {
		ways = append(ways, nil)
	}
	g.rules[name] = ways
	return name, rest[1:]
}

// Place: where tokens stop being the beginning of a text of the grammar, if they aren't a whole one.
func (g *Grammar) Place(tokens []api.Token, length int) (place int, right bool) {
	w := g.walk()
	for _, t := range tokens {
		if !w.goOn(t) {
			return t.At, false
		}
	}
	return length, w.whole()
}

// Grow: sources that are grown token by token out of some texts, as long as a text of the grammar goes on so. Those that are the beginning of one are handed to ask, those that are none to wrong, with the place where they went wrong. How many there were is answered.
func (g *Grammar) Grow(texts string, longest int, ask func(src string), wrong func(src string, place int)) int {
	all := growth{texts: strings.Fields(texts), walk: g.walk(), ask: ask, wrong: wrong}
	all.from("", longest)
	return all.tried
}

type growth struct {
	texts []string
	walk  *walk
	ask   func(src string)
	wrong func(src string, place int)
	tried int
}

func (g *growth) from(src string, more int) {
	g.tried++
	g.ask(src)
	if more == 0 {
		return
	}
	for _, text := range g.texts {
		tokens, _, _ := lexer.Lex(text)
		longer := strings.TrimPrefix(src+" "+text, " ")
		if g.walk.goOn(tokens[0]) {
			g.from(longer, more-1)
			g.walk.back()
		} else {
			g.tried++
			g.wrong(longer, len(longer)-len(text))
		}
	}
}

// stage: how far a way has gone that began behind so many tokens.
type stage struct {
	head      string
	way, done int
	from      int
}

// walk: every stage of every way that the tokens so far leave open (as Earley has it).
type walk struct {
	of   *Grammar
	sets [][]stage
}

func (g *Grammar) walk() *walk {
	w := &walk{of: g}
	w.add([]stage{{head: whole}})
	return w
}

// goOn: the next token is taken if there's a text that goes on with it.
func (w *walk) goOn(t api.Token) bool {
	var moved []stage
	for _, s := range w.sets[len(w.sets)-1] {
		if part, ok := w.awaited(s); ok && slices.Contains(terminals(t), part) {
			s.done++
			moved = append(moved, s)
		}
	}
	if len(moved) > 0 {
		w.add(moved)
	}
	return len(moved) > 0
}

// back: as if the last token had not been taken.
func (w *walk) back() { w.sets = w.sets[:len(w.sets)-1] }

// whole: are the tokens so far a whole text?
func (w *walk) whole() bool {
	return slices.Contains(w.sets[len(w.sets)-1], stage{head: whole, done: 1})
}

func (w *walk) awaited(s stage) (string, bool) {
	if way := w.of.rules[s.head][s.way]; s.done < len(way) {
		return way[s.done], true
	}
	return "", false
}

func (w *walk) add(set []stage) {
	here := len(w.sets)
	w.sets = append(w.sets, set)
	put := func(s stage) {
		if !slices.Contains(w.sets[here], s) {
			w.sets[here] = append(w.sets[here], s)
		}
	}
	for i := 0; i < len(w.sets[here]); i++ {
		s := w.sets[here][i]
		part, ok := w.awaited(s)
		if !ok {
			for _, outer := range w.sets[s.from] {
				if wanted, ok := w.awaited(outer); ok && wanted == s.head {
					outer.done++
					put(outer)
				}
			}
			continue
		}
		for way := range w.of.rules[part] {
			put(stage{head: part, way: way, from: here})
		}
		if w.of.nothing[part] > 0 {
			s.done++
			put(s)
		}
	}
}

// terminals: what a grammar may call a token. A name is one, whatever its text; and a grammar may ask for one of just this text.
func terminals(t api.Token) []string {
	quoted := `"` + t.Text + `"`
	switch {
	case t.Kind == api.TokName:
		return []string{"name", quoted}
	case t.Kind == api.TokString:
		return []string{"string"}
	case t.Kind == api.TokInt && t.N >= 0:
		return []string{"number"}
	case t.Kind == api.TokInt:
		return []string{"great"}
	}
	return []string{quoted}
}
