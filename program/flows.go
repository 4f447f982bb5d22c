package program

import (
	"secrets/api"
	"secrets/label"
)

// check holds what flows in each statement against the labels (P9).
func (p *Program) check() {
	p.each(p.body, label.Label{}, func(s statement, told label.Label) {
		p.checkEnds(s, told)
		if v, l, ok := p.into(s); ok {
			mustFlow(s, l.Join(told), p.vars[v])
		}
	})
}

// checkEnds looks at what a statement touches besides its variable: an output, an input, what is given away.
func (p *Program) checkEnds(s statement, told label.Label) {
	switch x := s.(type) {
	case put:
		mustFlow(s, p.exprLabel(x.value).Join(told), p.outs[p.names.number(x.to)])
	case get:
		// That the input was asked at all can be seen by those who give it.
		mustFlow(s, told, p.ins[p.names.number(x.from)])
	case free:
		if !p.exprLabel(x.value).Flows(p.order.MayGive(p.labelOf(x.label), p.bits(x.by))) {
			throw(api.ErrBy, s.begins())
		}
	}
}

func mustFlow(s statement, from, to label.Label) {
	if !from.Flows(to) {
		throw(api.ErrFlow, s.begins())
	}
}
