package program

// name is a name where it stands in the text.
type name struct {
	text string
	at   int
}

// policy is an owner, and whom it lets read.
type policy struct {
	owner   name
	readers []name
}

// declaration begins with its word; over has two names, the others one.
type declaration struct {
	word     string
	names    []name
	labelled bool // a label stands there, and be it {}
	label    []policy
}

// expr is an expression: a number, a use of a variable, or a pair.
type expr interface {
	// strength tells how firmly it holds together: what is weaker than its place asks for needs parentheses.
	strength() int
}

const (
	compares   = iota // < ==
	adds              // + -
	multiplies        // * /
	single            // a number or a name
)

type number struct{ value int }

func (n number) strength() int { return single }

type use struct{ name }

func (u use) strength() int { return single }

// pair is an operator between two sides.
type pair struct {
	op          string
	left, right expr
}

func (p pair) strength() int {
	switch p.op {
	case "<", "==":
		return compares
	case "+", "-":
		return adds
	}
	return multiplies
}

// statement is an assign, get, put, free, choice or loop.
type statement interface {
	// begins is the byte at which it begins.
	begins() int
}

// place is what all statements have in common: where they stand in the text.
type place struct{ at int }

func (p place) begins() int { return p.at }

// assign: to = value;
type assign struct {
	place
	to    name
	value expr
}

// get: get from to;
type get struct {
	place
	from, to name
}

// put: put to value;
type put struct {
	place
	to    name
	value expr
}

// free is an assign with a label of its own, and those by whom it may be.
type free struct {
	assign
	label []policy
	by    []name
}

// tested is what choice and loop have in common: what they test, and what stands within.
type tested struct {
	place
	test expr
	body []statement
}

// choice: if test {body} else {other}
type choice struct {
	tested
	hasElse bool // an else stands there, and be it empty
	other   []statement
}

// loop: while test {body}
type loop struct{ tested }
