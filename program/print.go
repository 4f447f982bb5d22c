package program

import (
	"strconv"
	"strings"
)

// Print is the program's text (P7).
func (p Program) Print() string {
	var out lines
	for _, d := range p.declarations {
		out.add(declarationText(d) + ";")
	}
	out.add("do {")
	out.block(p.body)
	out.add("}")
	return out.text.String()
}

// lines are the lines of a text, and how many blocks the next one stands in.
type lines struct {
	text  strings.Builder
	depth int
}

func (l *lines) add(line string) {
	l.text.WriteString(strings.Repeat("  ", l.depth))
	l.text.WriteString(line)
	l.text.WriteByte('\n')
}

func (l *lines) block(list []statement) {
	l.depth++
	for _, s := range list {
		l.statement(s)
	}
	l.depth--
}

func (l *lines) statement(s statement) {
	switch x := s.(type) {
	case assign:
		l.add(assignText(x) + ";")
	case get:
		l.add("get " + x.from.text + " " + x.to.text + ";")
	case put:
		l.add("put " + x.to.text + " " + exprText(x.value) + ";")
	case free:
		l.add("free " + assignText(x.assign) + " " + labelText(x.label) + byText(x.by) + ";")
	case choice:
		l.tested("if ", x.tested)
		if x.hasElse {
			l.add("} else {")
			l.block(x.other)
		}
		l.add("}")
	case loop:
		l.tested("while ", x.tested)
		l.add("}")
	}
}

// tested leaves the brace that ends the block to the caller: an else may stand behind it.
func (l *lines) tested(word string, t tested) {
	l.add(word + exprText(t.test) + " {")
	l.block(t.body)
}

func declarationText(d declaration) string {
	text := d.word + namesText(d.names)
	if d.labelled {
		text += " " + labelText(d.label)
	}
	return text
}

// namesText has a blank ahead of each.
func namesText(list []name) string {
	text := ""
	for _, n := range list {
		text += " " + n.text
	}
	return text
}

func labelText(list []policy) string {
	var texts []string
	for _, p := range list {
		texts = append(texts, p.owner.text+":"+namesText(p.readers))
	}
	return "{" + strings.Join(texts, "; ") + "}"
}

func byText(list []name) string {
	if len(list) == 0 {
		return ""
	}
	return " by" + namesText(list)
}

func assignText(a assign) string { return a.to.text + " = " + exprText(a.value) }

func exprText(e expr) string {
	switch x := e.(type) {
	case number:
		return strconv.Itoa(x.value)
	case use:
		return x.text
	case pair:
		return sideText(x.left, leftNeeds(x)) + " " + x.op + " " + sideText(x.right, x.strength()+1)
	}
	return ""
}

// leftNeeds: operators of one strength gather from the left without parentheses, but for those that compare, of which no two stand side by side.
func leftNeeds(p pair) int {
	if p.strength() == compares {
		return compares + 1
	}
	return p.strength()
}

// sideText is one side of a pair, in parentheses if it is weaker than its place needs.
func sideText(e expr, needs int) string {
	if e.strength() < needs {
		return "(" + exprText(e) + ")"
	}
	return exprText(e)
}
