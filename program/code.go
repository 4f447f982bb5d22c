package program

import "secrets/machine"

// Code is what the program is compiled to (P12).
func (p Program) Code() machine.Code {
	w := writer{of: &p}
	w.block(p.body)
	return machine.New(p.order, p.ins, p.outs, p.vars, w.does)
}

// writer writes the instructions of a program, one behind the other.
type writer struct {
	of   *Program
	does []machine.Instruction
}

func (w *writer) add(i machine.Instruction) { w.does = append(w.does, i) }

// op adds an instruction behind which nothing stands.
func (w *writer) op(op machine.Op) { w.add(machine.Instruction{Op: op}) }

func (w *writer) number(n name) int { return w.of.names.number(n) }

func (w *writer) block(list []statement) {
	for _, s := range list {
		// The step of a while stands within it, so that each test is one.
		if _, ok := s.(loop); ok {
			w.op(machine.Loop)
		}
		w.op(machine.Step)
		w.statement(s)
	}
}

func (w *writer) statement(s statement) {
	switch x := s.(type) {
	case assign:
		w.expr(x.value)
		w.add(machine.Instruction{Op: machine.Store, Var: w.number(x.to)})
	case get:
		w.add(machine.Instruction{Op: machine.Get, In: w.number(x.from), Var: w.number(x.to)})
	case put:
		w.expr(x.value)
		w.add(machine.Instruction{Op: machine.Put, Out: w.number(x.to)})
	case free:
		w.expr(x.value)
		w.add(machine.Instruction{Op: machine.Free, Var: w.number(x.to), Label: w.of.labelOf(x.label), By: w.of.bits(x.by)})
	case choice:
		w.tested(x.tested, machine.If)
		if x.hasElse {
			w.op(machine.Else)
			w.block(x.other)
		}
		w.op(machine.End)
	case loop:
		w.tested(x.tested, machine.Test)
		w.op(machine.End)
	}
}

// tested leaves End to the caller: an else may stand ahead of it.
func (w *writer) tested(t tested, by machine.Op) {
	w.expr(t.test)
	w.op(by)
	w.block(t.body)
}

func (w *writer) expr(e expr) {
	switch x := e.(type) {
	case number:
		w.add(machine.Instruction{Op: machine.Push, N: x.value})
	case use:
		w.add(machine.Instruction{Op: machine.Load, Var: w.number(x.name)})
	case pair:
		w.expr(x.left)
		w.expr(x.right)
		w.op(operator(x.op))
	}
}

// operators has the instruction of each sign.
var operators = [...]struct {
	sign string
	op   machine.Op
}{
	{"+", machine.Add},
	{"-", machine.Sub},
	{"*", machine.Mul},
	{"/", machine.Div},
	{"<", machine.Less},
	{"==", machine.Same},
}

// operator finds a sign's instruction; the form has no other signs.
func operator(sign string) machine.Op {
	var found machine.Op
	for _, o := range operators {
		if o.sign == sign {
			found = o.op
		}
	}
	return found
}
