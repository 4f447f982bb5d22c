package program

import (
	"secrets/api"
	"secrets/label"
)

// giveLabels gives all that is declared its label, and works out those that are left out (P8).
func (p *Program) giveLabels() {
	p.order = p.orderOf()
	var open [api.MaxVars]bool
	for _, d := range p.declarations {
		l := p.labelOf(d.label)
		switch roleOf(d.word) {
		case input:
			p.ins = append(p.ins, l)
		case output:
			p.outs = append(p.outs, l)
		case variable:
			open[len(p.vars)] = !d.labelled
			p.vars = append(p.vars, l)
		}
	}
	for p.raise(open) {
	}
}

// orderOf looks at all declarations ahead of any label: an over counts for labels ahead of it, too.
func (p *Program) orderOf() label.Order {
	var pairs [][2]int
	for _, d := range p.declarations {
		if d.word == "over" {
			pairs = append(pairs, [2]int{p.names.number(d.names[0]), p.names.number(d.names[1])})
		}
	}
	return label.NewOrder(p.names.count[actor], pairs)
}

func (p *Program) labelOf(list []policy) label.Label {
	var policies []api.Policy
	for _, one := range list {
		policies = append(policies, api.Policy{Owner: p.names.number(one.owner), Readers: p.bits(one.readers)})
	}
	return p.order.Of(policies)
}

// bits is the actors of these names.
func (p *Program) bits(actors []name) int {
	bits := 0
	for _, n := range actors {
		bits |= 1 << p.names.number(n)
	}
	return bits
}

// raise joins to the label of each open variable what flows into it. It tells whether something was missing: then more may flow elsewhere.
func (p *Program) raise(open [api.MaxVars]bool) bool {
	raised := false
	p.each(p.body, label.Label{}, func(s statement, told label.Label) {
		v, l, ok := p.into(s)
		l = l.Join(told)
		if ok && open[v] && !l.Flows(p.vars[v]) {
			p.vars[v] = p.vars[v].Join(l)
			raised = true
		}
	})
	return raised
}

// each visits the statements of a block and of the blocks in it, from the left, each with what its place tells.
func (p *Program) each(block []statement, told label.Label, visit func(s statement, told label.Label)) {
	for _, s := range block {
		visit(s, told)
		switch x := s.(type) {
		case choice:
			inner := told.Join(p.exprLabel(x.test))
			p.each(x.body, inner, visit)
			p.each(x.other, inner, visit)
		case loop:
			p.each(x.body, told.Join(p.exprLabel(x.test)), visit)
		}
	}
}

// into is the variable of a statement, and what flows into it but for what its place tells; false: it has none.
func (p *Program) into(s statement) (int, label.Label, bool) {
	switch x := s.(type) {
	case assign:
		return p.names.number(x.to), p.exprLabel(x.value), true
	case get:
		return p.names.number(x.to), p.ins[p.names.number(x.from)], true
	case free:
		return p.names.number(x.to), p.labelOf(x.label), true
	}
	return 0, label.Label{}, false
}

// exprLabel is the join of the labels of its variables.
func (p *Program) exprLabel(e expr) label.Label {
	switch x := e.(type) {
	case use:
		return p.vars[p.names.number(x.name)]
	case pair:
		return p.exprLabel(x.left).Join(p.exprLabel(x.right))
	}
	return label.Label{}
}
