package secrets_test

import (
	"slices"
	"strings"
)

// form is the document's, to the letter.
const form = `
program   = { declaration ';' } 'do' block
declaration = 'actor' NAME | 'over' NAME NAME | 'in' NAME label | 'out' NAME label | 'var' NAME [ label ]
label     = '{' [ policy { ';' policy } [ ';' ] ] '}'          policy = NAME ':' { NAME }
block     = '{' { statement } '}'
statement = NAME '=' expr ';'  |  'get' NAME NAME ';'  |  'put' NAME expr ';'
          | 'free' NAME '=' expr label [ 'by' NAME { NAME } ] ';'
          | 'if' expr block [ 'else' block ]  |  'while' expr block
expr      = sum [ ( '<' | '==' ) sum ]
sum       = product { ( '+' | '-' ) product }                  product = atom { ( '*' | '/' ) atom }
atom      = NUMBER | NAME | '(' expr ')'
`

// grammar has for each thing the lists of words and things that it may be made of.
type grammar map[string][][]string

// formGrammar is the grammar of form.
func formGrammar() grammar {
	g := grammar{}
	words := strings.Fields(form)
	for len(words) > 0 {
		end := len(words)
		for k := 2; k < len(words); k++ {
			if words[k] == "=" {
				end = k - 1
				break
			}
		}
		g.choices(words[0], words[2:end])
		words = words[end:]
	}
	return g
}

// choices makes a thing of the alternatives between bars.
func (g grammar) choices(thing string, words []string) {
	g[thing] = nil
	var list []string
	for k := 0; k < len(words); k++ {
		switch w := words[k]; w {
		case "|":
			g[thing] = append(g[thing], list)
			list = nil
		case "{", "[", "(":
			end := closing(words, k)
			list = append(list, g.inner(thing, w, words[k+1:end]))
			k = end
		default:
			list = append(list, w)
		}
	}
	g[thing] = append(g[thing], list)
}

// inner makes a thing of its own of what stands in brackets.
func (g grammar) inner(of, bracket string, words []string) string {
	name := of + "." + strings.Join(words, "")
	g.choices(name, words)
	whole := name + bracket
	switch bracket {
	case "{":
		g[whole] = [][]string{nil, {name, whole}}
	case "[":
		g[whole] = [][]string{nil, {name}}
	default:
		g[whole] = [][]string{{name}}
	}
	return whole
}

func closing(words []string, open int) int {
	depth := 0
	for k := open; ; k++ {
		switch words[k] {
		case "{", "[", "(":
			depth++
		case "}", "]", ")":
			depth--
		}
		if depth == 0 {
			return k
		}
	}
}

// item: of a thing that began at a word, so much of one of its lists has been seen.
type item struct {
	thing        string
	choice, seen int
	began        int
}

// stuck is the first word with which the form can't go on; as many as there are words, if they end too early; -1, if they are a program. It keeps all that they can still become side by side, and looks at no word ahead.
func (g grammar) stuck(words []string) int {
	sets := [][]item{nil}
	for choice := range g["program"] {
		sets[0] = append(sets[0], item{"program", choice, 0, 0})
	}
	for k := 0; ; k++ {
		sets = append(sets, nil)
		done := g.grow(sets, k, words)
		switch {
		case k == len(words) && done:
			return -1
		case k == len(words) || len(sets[k+1]) == 0:
			return k
		}
	}
}

// grow completes the items at word k, and moves those over it that can; it tells whether the words so far are a program.
func (g grammar) grow(sets [][]item, k int, words []string) bool {
	done := false
	add := func(at int, i item) {
		if !slices.Contains(sets[at], i) {
			sets[at] = append(sets[at], i)
		}
	}
	for more := true; more; {
		size := len(sets[k])
		for n := 0; n < len(sets[k]); n++ {
			i := sets[k][n]
			list := g[i.thing][i.choice]
			if i.seen == len(list) {
				done = done || i.thing == "program" && i.began == 0
				for _, j := range slices.Clone(sets[i.began]) {
					if l := g[j.thing][j.choice]; j.seen < len(l) && l[j.seen] == i.thing {
						add(k, item{j.thing, j.choice, j.seen + 1, j.began})
					}
				}
				continue
			}
			next := list[i.seen]
			for choice := range g[next] {
				add(k, item{next, choice, 0, k})
			}
			if k < len(words) && fits(next, words[k]) {
				add(k+1, item{i.thing, i.choice, i.seen + 1, i.began})
			}
		}
		more = len(sets[k]) > size
	}
	return done
}

// fits: is the word what the grammar says?
func fits(said, word string) bool {
	switch {
	case said == "NUMBER":
		return word[0] >= '0' && word[0] <= '9'
	case said == "NAME":
		return word[0] >= 'a' && word[0] <= 'z' && !slices.Contains(strings.Fields("actor over in out var do get put if else while free by"), word)
	}
	return said == "'"+word+"'"
}

// thrown makes the words of a thing; budget is how many choices may be free ones, then the shortest are taken.
func (g grammar) thrown(d *dice, thing string, budget *int) []string {
	switch thing {
	case "NUMBER":
		return []string{[]string{"0", "1", "42", "007"}[d.below(4)]}
	case "NAME":
		return []string{[]string{"a", "b", "v", "w", "s", "o"}[d.below(6)]}
	}
	if g[thing] == nil {
		return []string{strings.Trim(thing, "'")}
	}
	choice := d.below(len(g[thing]))
	*budget--
	if *budget < 0 {
		choice = 0
	}
	var words []string
	for _, part := range g[thing][choice] {
		words = append(words, g.thrown(d, part, budget)...)
	}
	return words
}
