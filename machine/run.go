package machine

import (
	"secrets/api"
	"secrets/label"
)

// machine is one run of a code.
type machine struct {
	code  Code
	vars  [api.MaxVars]int
	stack []number
	told  []label.Label // told[d]: what the way tells to an instruction that stands in d parts
	at    int           // the place of the instruction that comes next
	fuel  int
	input func(channel int) (int, bool)
	see   func(api.Event) bool
}

type number struct {
	n     int
	label label.Label
}

// Run runs the code from its beginning (P10). Where no input is handed in none comes; where nobody sees the events nobody says no.
func (c Code) Run(input func(channel int) (int, bool), fuel int, see func(api.Event) bool) api.Outcome {
	if input == nil {
		input = func(int) (int, bool) { return 0, false }
	}
	if see == nil {
		see = func(api.Event) bool { return true }
	}
	m := &machine{code: c, told: make([]label.Label, 1), fuel: fuel, input: input, see: see}
	table := kinds()
	for m.at < len(c.does) {
		i := c.does[m.at]
		m.at++
		if end := table[i.Op].does(m, i); end != api.Done {
			return end
		}
	}
	return api.Done
}

func (m *machine) give(n int, l label.Label) { m.stack = append(m.stack, number{n, l}) }

func (m *machine) take() number {
	last := len(m.stack) - 1
	x := m.stack[last]
	m.stack = m.stack[:last]
	return x
}

// way is what the way to the instruction tells.
func (m *machine) way(i Instruction) label.Label { return m.told[i.depth] }

// within says what the way tells to all that stands in the part that the instruction begins.
func (m *machine) within(i Instruction, l label.Label) {
	m.told = append(m.told[:i.depth+1], l)
}

// tell: Done, if the run goes on.
func (m *machine) tell(kind, what, n int) api.Outcome {
	if !m.see(api.Event{Kind: kind, What: what, N: n}) {
		return api.Cut
	}
	return api.Done
}
