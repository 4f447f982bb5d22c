// Package secrets: labels, programs, codes that run: see DOC.md.
package secrets

import (
	"secrets/api"
	"secrets/machine"
	"secrets/program"
)

// Program is a program that was read and found to keep its secrets.
type Program struct{ does program.Program }

// Compile reads and checks a program (P5 to P9).
func Compile(text string) (*Program, api.Error) {
	p, err := program.Compile(text)
	if err != nil {
		return nil, err
	}
	return &Program{does: p}, nil
}

// program: no call may panic, so a program that is nil does nothing.
func (p *Program) program() program.Program {
	if p == nil {
		return program.Program{}
	}
	return p.does
}

// Print tells its text, a statement a line (P7).
func (p *Program) Print() string { return p.program().Print() }

// Labels tells the variables, in their order, each with its label, till yield says no (P8).
func (p *Program) Labels() func(yield func(name string, l []api.Policy) bool) {
	return p.program().Labels
}

// Code tells what it is compiled to (P12).
func (p *Program) Code() *Code { return &Code{does: p.program().Code()} }

// Code is what a machine runs.
type Code struct{ does machine.Code }

// Load: the code that the bytes are (P11).
func Load(s string) (*Code, api.Error) {
	c, err := machine.FromBytes(s)
	if err != nil {
		return nil, err
	}
	return &Code{does: c}, nil
}

// code: no call may panic, so a code that is nil does nothing.
func (c *Code) code() machine.Code {
	if c == nil {
		return machine.Code{}
	}
	return c.does
}

// Bytes tells it as bytes (P11).
func (c *Code) Bytes() string { return c.code().Bytes() }

// Order, Ins, Outs, Frees tell who acts for whom; the labels of inputs, of outputs; how many instructions free something (P10).
func (c *Code) Order() *Order { return &Order{who: c.code().Order()} }

func (c *Code) Ins() [][]api.Policy { return c.code().Ins() }

func (c *Code) Outs() [][]api.Policy { return c.code().Outs() }

func (c *Code) Frees() int { return c.code().Frees() }

// Run runs it from its beginning, so many steps at the most (P10).
func (c *Code) Run(input func(channel int) (int, bool), fuel int, see func(api.Event) bool) api.Outcome {
	return c.code().Run(input, fuel, see)
}
