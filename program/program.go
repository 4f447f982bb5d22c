// Package program: texts of programs read, held against the rules, labelled, printed and compiled (P5 to P9, P12).
package program

import (
	"secrets/api"
	"secrets/label"
)

// Program is a program that was read and found to keep its secrets; nothing changes it. The zero value is the one that does nothing.
type Program struct {
	declarations    []declaration
	body            []statement
	names           *scope
	order           label.Order
	ins, outs, vars []label.Label // by number
}

// Compile reads and checks a text. Here, and nowhere else, is a fault caught that was thrown within.
func Compile(text string) (p Program, err api.Error) {
	defer func() {
		if thrown := recover(); thrown != nil {
			p, err = Program{}, caught(thrown)
		}
	}()
	p.declarations, p.body = read(text)
	p.names = scopeOf(p.declarations, p.body)
	p.giveLabels()
	p.check()
	return p, nil
}

// Labels tells the variables as declared, each with its label as a fresh list, till yield says no (P8).
func (p Program) Labels(yield func(name string, l []api.Policy) bool) {
	number := 0
	for _, d := range p.declarations {
		if roleOf(d.word) != variable {
			continue
		}
		if !yield(d.names[0].text, p.order.Policies(p.vars[number])) {
			return
		}
		number++
	}
}
