package machine

import (
	"strings"

	"secrets/api"
	"secrets/label"
)

// FromBytes is the code that the bytes are (P11).
func FromBytes(s string) (Code, api.Error) {
	if len(s) > api.MaxCode {
		return Code{}, &api.Fault{E: api.ErrLong}
	}
	r := reader{rest: s}
	c := r.code()
	// What is not written in the one way comes out otherwise than it went in: who acts for whom not all there, bits of no actors, labels not in normal form, twice, unused or out of order.
	if r.bad || !link(c.does) || !balanced(c.does) || c.Bytes() != s {
		return Code{}, &api.Fault{E: api.ErrCode}
	}
	return c, nil
}

// reader takes bytes one behind the other. There is but one thing that can be wrong with them, so it is enough to keep that something was; what is read from then on is let be.
type reader struct {
	rest string
	bad  bool
}

// next is the next byte.
func (r *reader) next() int {
	if r.rest == "" {
		r.bad = true
		return 0
	}
	b := r.rest[0]
	r.rest = r.rest[1:]
	return int(b)
}

// below is the next byte, which must be below n.
func (r *reader) below(n int) int {
	k := r.next()
	if k >= n {
		r.bad = true
		return 0
	}
	return k
}

func (r *reader) code() Code {
	var c Code
	rest, ok := strings.CutPrefix(r.rest, first)
	r.rest, r.bad = rest, !ok
	c.order = r.order()
	labels := r.labels(c.order)
	c.ins = r.list(api.MaxIns, labels)
	c.outs = r.list(api.MaxOuts, labels)
	c.vars = r.list(api.MaxVars, labels)
	table := kinds()
	for !r.bad && r.rest != "" {
		i := Instruction{Op: Op(r.below(ops))}
		for _, what := range table[i.Op].behind {
			r.operand(&i, what, c, labels)
		}
		c.does = append(c.does, i)
	}
	return c
}

func (r *reader) order() label.Order {
	n := r.below(api.MaxActors + 1)
	var pairs [][2]int
	for k := range n {
		above := r.next()
		for j := range n {
			if above>>j&1 == 1 {
				pairs = append(pairs, [2]int{j, k})
			}
		}
	}
	return label.NewOrder(n, pairs)
}

func (r *reader) labels(o label.Order) []label.Label {
	var list []label.Label
	for range r.next() {
		var policies []api.Policy
		for range r.next() {
			policies = append(policies, api.Policy{Owner: r.next(), Readers: r.next()})
		}
		list = append(list, o.Of(policies))
	}
	return list
}

// list is the labels of the inputs, outputs or variables.
func (r *reader) list(most int, labels []label.Label) []label.Label {
	var list []label.Label
	for range r.below(most + 1) {
		list = append(list, r.label(labels))
	}
	return list
}

func (r *reader) label(labels []label.Label) label.Label {
	k := r.next()
	if k >= len(labels) {
		r.bad = true
		return label.Label{}
	}
	return labels[k]
}

func (r *reader) operand(i *Instruction, what operand, c Code, labels []label.Label) {
	switch what {
	case aNumber:
		for range 4 {
			i.N = i.N<<8 | r.next()
		}
	case anInput:
		i.In = r.below(len(c.ins))
	case anOutput:
		i.Out = r.below(len(c.outs))
	case aVariable:
		i.Var = r.below(len(c.vars))
	case aLabel:
		i.Label = r.label(labels)
	case someActors:
		i.By = r.below(1 << c.order.Actors())
	}
}
