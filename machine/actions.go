package machine

import (
	"secrets/api"
	"secrets/label"
)

func step(m *machine, _ Instruction) api.Outcome {
	if m.fuel <= 0 {
		return api.Fuel
	}
	m.fuel--
	return api.Done
}

func push(m *machine, i Instruction) api.Outcome {
	m.give(i.N, label.Label{})
	return api.Done
}

func load(m *machine, i Instruction) api.Outcome {
	m.give(m.vars[i.Var], m.code.vars[i.Var])
	return api.Done
}

func store(m *machine, i Instruction) api.Outcome {
	x := m.take()
	if !m.way(i).Join(x.label).Flows(m.code.vars[i.Var]) {
		return api.Stopped
	}
	m.vars[i.Var] = x.n
	return api.Done
}

// both makes of two numbers one, with the labels of both.
func both(makes func(a, b int) int) action {
	return func(m *machine, _ Instruction) api.Outcome {
		b := m.take()
		a := m.take()
		m.give(makes(a.n, b.n), a.label.Join(b.label))
		return api.Done
	}
}

func unlessByZero(does action) action {
	return func(m *machine, i Instruction) api.Outcome {
		if m.stack[len(m.stack)-1].n == 0 {
			return api.Divide
		}
		return does(m, i)
	}
}

func oneIf(yes bool) int {
	if yes {
		return 1
	}
	return 0
}

// get looks at the labels first: that an input was asked at all tells something to those who give it.
func get(m *machine, i Instruction) api.Outcome {
	way, in := m.way(i), m.code.ins[i.In]
	if !way.Flows(in) || !way.Join(in).Flows(m.code.vars[i.Var]) {
		return api.Stopped
	}
	n, ok := m.input(i.In)
	if !ok {
		return api.Input
	}
	m.vars[i.Var] = n
	return m.tell(api.Got, i.In, n)
}

func put(m *machine, i Instruction) api.Outcome {
	x := m.take()
	if !m.way(i).Join(x.label).Flows(m.code.outs[i.Out]) {
		return api.Stopped
	}
	return m.tell(api.Put, i.Out, x.n)
}

func free(m *machine, i Instruction) api.Outcome {
	x := m.take()
	if !x.label.Flows(m.code.order.MayGive(i.Label, i.By)) || !m.way(i).Join(i.Label).Flows(m.code.vars[i.Var]) {
		return api.Stopped
	}
	m.vars[i.Var] = x.n
	return m.tell(api.Freed, i.Var, x.n)
}

func choose(m *machine, i Instruction) api.Outcome {
	x := m.take()
	m.within(i, m.way(i).Join(x.label))
	if x.n == 0 {
		m.at = i.to
	}
	return api.Done
}

func leap(m *machine, i Instruction) api.Outcome {
	m.at = i.to
	return api.Done
}

// enter begins a loop of which nothing has been tested yet. When it is done again the run goes on behind Loop, so that what was told stays.
func enter(m *machine, i Instruction) api.Outcome {
	m.within(i, m.way(i))
	return api.Done
}

func test(m *machine, i Instruction) api.Outcome {
	x := m.take()
	m.told[i.depth] = m.told[i.depth].Join(x.label)
	if x.n == 0 {
		m.at = i.to
	}
	return api.Done
}
