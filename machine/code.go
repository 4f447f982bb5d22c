// Package machine: codes as bytes, and the machine that runs them and lets nothing flow where it may not (P10, P11).
package machine

import (
	"slices"

	"secrets/api"
	"secrets/label"
)

// Code is what a machine runs; nothing changes it. The zero value is the one that nobody has a part in and that does nothing.
type Code struct {
	order           label.Order
	ins, outs, vars []label.Label // by number
	does            []Instruction
}

// Instruction is one of a code, with what stands behind it; what it has no use for is 0.
type Instruction struct {
	Op    Op
	N     int
	In    int
	Out   int
	Var   int
	Label label.Label
	By    int // as bits

	depth int // in how many parts of If and Loop it stands
	to    int // where the run goes on, if not at the next instruction
}

// New is the code of these parts. Who writes the instructions sees to it that they stand as P11 asks.
func New(order label.Order, ins, outs, vars []label.Label, does []Instruction) Code {
	c := Code{order: order, ins: slices.Clone(ins), outs: slices.Clone(outs), vars: slices.Clone(vars), does: slices.Clone(does)}
	link(c.does)
	return c
}

// Order tells who acts for whom.
func (c Code) Order() label.Order { return c.order }

// Ins tells the inputs' labels, as fresh lists.
func (c Code) Ins() [][]api.Policy { return c.policies(c.ins) }

// Outs tells the outputs' labels, as fresh lists.
func (c Code) Outs() [][]api.Policy { return c.policies(c.outs) }

func (c Code) policies(labels []label.Label) [][]api.Policy {
	var lists [][]api.Policy
	for _, l := range labels {
		lists = append(lists, c.order.Policies(l))
	}
	return lists
}

// Frees tells how many instructions free something.
func (c Code) Frees() int { return len(c.freed()) }

// freed is the labels of the Free instructions, in their order.
func (c Code) freed() []label.Label {
	var list []label.Label
	for _, i := range c.does {
		if i.Op == Free {
			list = append(list, i.Label)
		}
	}
	return list
}
