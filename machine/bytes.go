package machine

import (
	"slices"

	"secrets/label"
)

// first is what the bytes of all codes begin with.
const first = "SCR1"

// Bytes tells the code as bytes. There is but one way to write it: labels are in normal form, each stands there once, in the order of the first uses.
func (c Code) Bytes() string {
	labels := c.labels()
	out := []byte(first)
	out = append(out, c.orderBytes()...)
	out = append(out, c.labelBytes(labels)...)
	for _, list := range [][]label.Label{c.ins, c.outs, c.vars} {
		out = append(out, byte(len(list)))
		for _, l := range list {
			out = append(out, place(labels, l))
		}
	}
	table := kinds()
	for _, i := range c.does {
		out = append(out, byte(i.Op))
		for _, what := range table[i.Op].behind {
			out = append(out, i.operandBytes(what, labels)...)
		}
	}
	return string(out)
}

// labels is each label of the code once.
func (c Code) labels() []label.Label {
	var once []label.Label
	for _, l := range slices.Concat(c.ins, c.outs, c.vars, c.freed()) {
		if !slices.Contains(once, l) {
			once = append(once, l)
		}
	}
	return once
}

func place(labels []label.Label, l label.Label) byte { return byte(slices.Index(labels, l)) }

func (c Code) orderBytes() []byte {
	out := []byte{byte(c.order.Actors())}
	for k := range c.order.Actors() {
		out = append(out, byte(c.order.Above(k)))
	}
	return out
}

func (c Code) labelBytes(labels []label.Label) []byte {
	out := []byte{byte(len(labels))}
	for _, l := range labels {
		policies := c.order.Policies(l)
		out = append(out, byte(len(policies)))
		for _, p := range policies {
			out = append(out, byte(p.Owner), byte(p.Readers))
		}
	}
	return out
}

func (i Instruction) operandBytes(what operand, labels []label.Label) []byte {
	switch what {
	case anInput:
		return []byte{byte(i.In)}
	case anOutput:
		return []byte{byte(i.Out)}
	case aVariable:
		return []byte{byte(i.Var)}
	case aLabel:
		return []byte{place(labels, i.Label)}
	case someActors:
		return []byte{byte(i.By)}
	}
	return []byte{byte(i.N >> 24), byte(i.N >> 16), byte(i.N >> 8), byte(i.N)}
}
