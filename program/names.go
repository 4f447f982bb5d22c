package program

import "secrets/api"

// role is what a name stands for.
type role int

const (
	nothing role = iota
	actor
	input
	output
	variable
	roles // how many there are
)

// room is how many names a role has room for.
func (r role) room() int {
	switch r {
	case actor:
		return api.MaxActors
	case input:
		return api.MaxIns
	case output:
		return api.MaxOuts
	case variable:
		return api.MaxVars
	}
	return 0
}

// roleOf is the role that a declaration's word gives to its name.
func roleOf(word string) role {
	switch word {
	case "actor":
		return actor
	case "in":
		return input
	case "out":
		return output
	case "var":
		return variable
	}
	return nothing
}

// thing is what a name stands for: which of its role, from 0 on.
type thing struct {
	role   role
	number int
}

// scope is what the names of a program stand for.
type scope struct {
	things     map[string]thing
	count      [roles]int
	statements int
}

// scopeOf holds all names of a program against what they must stand for (P7).
func scopeOf(declarations []declaration, body []statement) *scope {
	s := &scope{things: map[string]thing{}}
	for _, d := range declarations {
		s.declaration(d)
	}
	s.block(body)
	return s
}

func (s *scope) declaration(d declaration) {
	if d.word == "over" {
		s.all(d.names, actor)
		return
	}
	s.declare(d.names[0], roleOf(d.word))
	s.label(d.label)
}

func (s *scope) declare(n name, r role) {
	if s.things[n.text].role != nothing {
		throw(api.ErrTwice, n.at)
	}
	if s.count[r] == r.room() {
		throw(api.ErrFull, n.at)
	}
	s.things[n.text] = thing{role: r, number: s.count[r]}
	s.count[r]++
}

// must: the name stands for something of the role.
func (s *scope) must(n name, r role) {
	if s.things[n.text].role != r {
		throw(api.ErrUse, n.at)
	}
}

func (s *scope) all(list []name, r role) {
	for _, n := range list {
		s.must(n, r)
	}
}

func (s *scope) label(list []policy) {
	for _, p := range list {
		s.must(p.owner, actor)
		s.all(p.readers, actor)
	}
}

func (s *scope) block(list []statement) {
	for _, one := range list {
		s.statement(one)
	}
}

func (s *scope) statement(one statement) {
	if s.statements == api.MaxPlaces {
		throw(api.ErrFull, one.begins())
	}
	s.statements++
	switch x := one.(type) {
	case assign:
		s.assign(x)
	case get:
		s.must(x.from, input)
		s.must(x.to, variable)
	case put:
		s.must(x.to, output)
		s.expr(x.value)
	case free:
		s.assign(x.assign)
		s.label(x.label)
		s.all(x.by, actor)
	case choice:
		s.tested(x.tested)
		s.block(x.other)
	case loop:
		s.tested(x.tested)
	}
}

func (s *scope) assign(a assign) {
	s.must(a.to, variable)
	s.expr(a.value)
}

func (s *scope) tested(t tested) {
	s.expr(t.test)
	s.block(t.body)
}

func (s *scope) expr(e expr) {
	switch x := e.(type) {
	case use:
		s.must(x.name, variable)
	case pair:
		s.expr(x.left)
		s.expr(x.right)
	}
}

// number: the which of its role it is, from 0 on.
func (s *scope) number(n name) int { return s.things[n.text].number }
