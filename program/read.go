package program

import (
	"strconv"

	"secrets/api"
)

// reader reads a text from the left. The word ahead has been read already, and may stand or not.
type reader struct {
	text   string
	ahead  word
	blocks int // that are open
	parens int // that are open
}

// read is the form of a text (P5, P6).
func read(text string) ([]declaration, []statement) {
	if len(text) > api.MaxText {
		throw(api.ErrLong, 0)
	}
	r := &reader{text: text, ahead: wordFrom(text, 0)}
	var declarations []declaration
	for !r.at("do") {
		declarations = append(declarations, r.declaration())
		r.pass(";")
	}
	r.pass("do")
	body := r.block()
	if r.ahead.kind != endWord {
		r.refuse()
	}
	return declarations, body
}

// refuse: the form can't go on with the word ahead.
func (r *reader) refuse() {
	throw(api.ErrSyntax, r.ahead.at)
}

// take is done with the word ahead, and reads the next one.
func (r *reader) take() word {
	w := r.ahead
	r.ahead = wordFrom(r.text, w.at+len(w.text))
	return w
}

// at: is the word ahead this sign or kept word?
func (r *reader) at(text string) bool {
	return r.ahead.kind == fixedWord && r.ahead.text == text
}

// pass goes over the sign or kept word, which must be ahead.
func (r *reader) pass(text string) {
	if !r.at(text) {
		r.refuse()
	}
	r.take()
}

// skip goes over the sign or kept word, if it is ahead.
func (r *reader) skip(text string) bool {
	found := r.at(text)
	if found {
		r.take()
	}
	return found
}

// open goes over the brace or parenthesis, unless it is one too many; that is asked ahead of reading on.
func (r *reader) open(text string, depth *int) {
	if !r.at(text) {
		r.refuse()
	}
	if *depth == api.MaxDepth {
		throw(api.ErrDepth, r.ahead.at)
	}
	*depth++
	r.take()
}

// shut goes over the brace or parenthesis that ends what open began.
func (r *reader) shut(text string, depth *int) {
	*depth--
	r.pass(text)
}

func (r *reader) atName() bool { return r.ahead.kind == nameWord }

func (r *reader) name() name {
	if !r.atName() {
		r.refuse()
	}
	w := r.take()
	return name{text: w.text, at: w.at}
}

// names are as many as there are, none at the least.
func (r *reader) names() []name {
	var list []name
	for r.atName() {
		list = append(list, r.name())
	}
	return list
}

func (r *reader) declaration() declaration {
	var d declaration
	switch d.word = r.ahead.text; d.word {
	case "actor", "over", "in", "out", "var":
		r.take()
	default:
		r.refuse()
	}
	d.names = []name{r.name()}
	switch d.word {
	case "over":
		d.names = append(d.names, r.name())
	case "in", "out":
		d.labelled, d.label = true, r.label()
	case "var":
		if r.at("{") {
			d.labelled, d.label = true, r.label()
		}
	}
	return d
}

func (r *reader) label() []policy {
	var list []policy
	r.pass("{")
	for !r.at("}") {
		list = append(list, r.policy())
		if !r.skip(";") {
			break
		}
	}
	r.pass("}")
	return list
}

func (r *reader) policy() policy {
	owner := r.name()
	r.pass(":")
	return policy{owner: owner, readers: r.names()}
}

func (r *reader) block() []statement {
	var list []statement
	r.open("{", &r.blocks)
	for !r.at("}") {
		list = append(list, r.statement())
	}
	r.shut("}", &r.blocks)
	return list
}

func (r *reader) statement() statement {
	here := place{at: r.ahead.at}
	switch {
	case r.atName():
		return r.ended(r.assign(here))
	case r.skip("get"):
		return r.ended(get{place: here, from: r.name(), to: r.name()})
	case r.skip("put"):
		return r.ended(put{place: here, to: r.name(), value: r.expr()})
	case r.skip("free"):
		return r.ended(r.free(here))
	case r.skip("if"):
		return r.choice(here)
	case r.skip("while"):
		return loop{tested: r.tested(here)}
	}
	r.refuse()
	return nil
}

// ended goes over the semicolon behind a statement.
func (r *reader) ended(s statement) statement {
	r.pass(";")
	return s
}

func (r *reader) assign(here place) assign {
	to := r.name()
	r.pass("=")
	return assign{place: here, to: to, value: r.expr()}
}

func (r *reader) free(here place) free {
	f := free{assign: r.assign(here), label: r.label()}
	if r.skip("by") {
		f.by = append([]name{r.name()}, r.names()...)
	}
	return f
}

func (r *reader) choice(here place) choice {
	c := choice{tested: r.tested(here)}
	if c.hasElse = r.skip("else"); c.hasElse {
		c.other = r.block()
	}
	return c
}

func (r *reader) tested(here place) tested {
	return tested{place: here, test: r.expr(), body: r.block()}
}

func (r *reader) expr() expr {
	left := r.sum()
	if !r.at("<") && !r.at("==") {
		return left
	}
	return pair{op: r.take().text, left: left, right: r.sum()}
}

func (r *reader) sum() expr {
	left := r.product()
	for r.at("+") || r.at("-") {
		left = pair{op: r.take().text, left: left, right: r.product()}
	}
	return left
}

func (r *reader) product() expr {
	left := r.atom()
	for r.at("*") || r.at("/") {
		left = pair{op: r.take().text, left: left, right: r.atom()}
	}
	return left
}

func (r *reader) atom() expr {
	switch {
	case r.ahead.kind == numberWord:
		return numberOf(r.take())
	case r.atName():
		return use{name: r.name()}
	}
	r.open("(", &r.parens)
	e := r.expr()
	r.shut(")", &r.parens)
	return e
}

// numberOf lets the error be: so few digits always make a number.
func numberOf(w word) number {
	value, _ := strconv.Atoi(w.text)
	return number{value: value}
}
