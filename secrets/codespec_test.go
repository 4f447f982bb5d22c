package secrets_test

import (
	"slices"

	"secrets/api"
)

// codeSpec says P10 and P11 over again, as near to the words as can be: a tree of instructions, labels as lists, each thing that is asked of the bytes asked by itself.
type codeSpec struct {
	who             spec
	labels          [][]api.Policy
	ins, outs, vars []int
	does            []specStep
}

// specStep is an instruction; an If has what stands up to Else in first and the rest in second, a Loop what stands up to Test and the rest.
type specStep struct {
	op            int
	behind        []int
	first, second []specStep
}

// broken is thrown where bytes are no code.
type broken struct{}

func must(yes bool) {
	if !yes {
		panic(broken{})
	}
}

type cursor struct {
	s  string
	at int
}

func (c *cursor) upTo(most int) int {
	must(c.at < len(c.s))
	b := int(c.s[c.at])
	c.at++
	must(b <= most)
	return b
}

func (c *cursor) list(most, mostEach int) []int {
	var l []int
	for range c.upTo(most) {
		l = append(l, c.upTo(mostEach))
	}
	return l
}

// codeSpecOf: false, if the bytes are no code; their number is not looked at.
func codeSpecOf(s string) (c codeSpec, ok bool) {
	defer func() {
		if r := recover(); r != nil {
			_ = r.(broken) // all else is a slip of this file
			c, ok = codeSpec{}, false
		}
	}()
	must(len(s) >= 4 && s[:4] == "SCR1")
	in := &cursor{s, 4}
	c.readOrder(in)
	c.readLabels(in)
	c.ins = in.list(3, len(c.labels)-1)
	c.outs = in.list(3, len(c.labels)-1)
	c.vars = in.list(8, len(c.labels)-1)
	var flat []specStep
	for in.at < len(s) {
		flat = append(flat, c.readStep(in))
	}
	c.checkUses(flat)
	checkHeights(flat)
	var end int
	c.does, end = tree(flat, 0)
	must(end == len(flat))
	return c, true
}

func (c *codeSpec) readOrder(in *cursor) {
	n := in.upTo(6)
	var pairs [][2]int
	var acts [6][6]bool
	for k := range n {
		bits := in.upTo(1<<n - 1)
		for j := range n {
			if bits&(1<<j) != 0 {
				pairs = append(pairs, [2]int{j, k})
				acts[j][k] = true
			}
		}
	}
	c.who = specOf(n, pairs)
	must(c.who.acts == acts)
}

func (c *codeSpec) readLabels(in *cursor) {
	for range in.upTo(255) {
		var l []api.Policy
		for range in.upTo(255) {
			owner := in.upTo(255)
			l = append(l, api.Policy{Owner: owner, Readers: in.upTo(255)})
		}
		must(slices.Equal(l, c.who.norm(l)))
		for _, other := range c.labels {
			must(!slices.Equal(l, other))
		}
		c.labels = append(c.labels, l)
	}
}

func (c *codeSpec) readStep(in *cursor) specStep {
	s := specStep{op: in.upTo(17)}
	input, output, variable := len(c.ins)-1, len(c.outs)-1, len(c.vars)-1
	switch ops[s.op] {
	case "Push":
		s.behind = []int{in.upTo(255), in.upTo(255), in.upTo(255), in.upTo(255)}
	case "Load", "Store":
		s.behind = []int{in.upTo(variable)}
	case "Get":
		s.behind = []int{in.upTo(input), in.upTo(variable)}
	case "Put":
		s.behind = []int{in.upTo(output)}
	case "Free":
		s.behind = []int{in.upTo(variable), in.upTo(len(c.labels) - 1), in.upTo(1<<c.who.n - 1)}
	}
	return s
}

func (c *codeSpec) checkUses(flat []specStep) {
	uses := slices.Concat(c.ins, c.outs, c.vars)
	for _, s := range flat {
		if ops[s.op] == "Free" {
			uses = append(uses, s.behind[1])
		}
	}
	var firsts []int
	for _, u := range uses {
		if !slices.Contains(firsts, u) {
			must(u == len(firsts))
			firsts = append(firsts, u)
		}
	}
	must(len(firsts) == len(c.labels))
}

func checkHeights(flat []specStep) {
	height := 0
	for _, s := range flat {
		switch ops[s.op] {
		case "Push", "Load":
			height++
			must(height <= 32)
		case "Add", "Sub", "Mul", "Div", "Less", "Same":
			must(height >= 2)
			height--
		case "Store", "Put", "If", "Test", "Free":
			must(height == 1)
			height = 0
		default:
			must(height == 0)
		}
	}
	must(height == 0)
}

// tree is what stands from there on up to an Else, an End or a Test that belongs to something around it, or to the end; and where it stopped.
func tree(flat []specStep, at int) ([]specStep, int) {
	var list []specStep
	is := func(op string) bool { return at < len(flat) && ops[flat[at].op] == op }
	for at < len(flat) && !is("Else") && !is("End") && !is("Test") {
		s := flat[at]
		at++
		switch ops[s.op] {
		case "If":
			s.first, at = tree(flat, at)
			if is("Else") {
				s.second, at = tree(flat, at+1)
			}
			must(is("End"))
			at++
		case "Loop":
			must(is("Step"))
			s.first, at = tree(flat, at)
			must(is("Test"))
			s.second, at = tree(flat, at+1)
			must(is("End"))
			at++
		}
		list = append(list, s)
	}
	return list, at
}

// specNumber: a number with its label.
type specNumber struct {
	n int
	l []api.Policy
}

type specRun struct {
	c     codeSpec
	w     *world
	fuel  int
	vars  []int
	stack []specNumber
}

// run is what a run of it does, in that world.
func (c codeSpec) run(w *world, fuel int) (out api.Outcome) {
	defer func() {
		if r := recover(); r != nil {
			out = r.(api.Outcome)
		}
	}()
	r := &specRun{c: c, w: w, fuel: fuel, vars: make([]int, len(c.vars))}
	r.all(c.does, nil)
	return api.Done
}

func (r *specRun) unless(yes bool, o api.Outcome) {
	if !yes {
		panic(o)
	}
}

// flow: all of these must flow to the label at that place.
func (r *specRun) flow(place int, labels ...[]api.Policy) {
	r.unless(r.c.who.flows(slices.Concat(labels...), r.c.labels[place]), api.Stopped)
}

func (r *specRun) take() specNumber {
	x := r.stack[len(r.stack)-1]
	r.stack = r.stack[:len(r.stack)-1]
	return x
}

func (r *specRun) all(list []specStep, way []api.Policy) {
	for _, s := range list {
		r.one(s, way)
	}
}

func (r *specRun) one(s specStep, way []api.Policy) {
	switch op := ops[s.op]; op {
	case "Step":
		r.unless(r.fuel > 0, api.Fuel)
		r.fuel--
	case "Push":
		n := 0
		for _, b := range s.behind {
			n = n*256 + b
		}
		r.stack = append(r.stack, specNumber{n, nil})
	case "Load":
		r.stack = append(r.stack, specNumber{r.vars[s.behind[0]], r.c.labels[r.c.vars[s.behind[0]]]})
	case "Store":
		x := r.take()
		r.flow(r.c.vars[s.behind[0]], x.l, way)
		r.vars[s.behind[0]] = x.n
	case "If":
		x := r.take()
		told := slices.Concat(way, x.l)
		if x.n != 0 {
			r.all(s.first, told)
		} else {
			r.all(s.second, told)
		}
	case "Loop":
		r.loop(s, way)
	case "Get", "Put", "Free":
		r.outside(s, way)
	default:
		b := r.take()
		a := r.take()
		r.unless(op != "Div" || b.n != 0, api.Divide)
		r.stack = append(r.stack, specNumber{calculated(op, a.n, b.n), slices.Concat(a.l, b.l)})
	}
}

func (r *specRun) loop(s specStep, way []api.Policy) {
	told := way
	for {
		r.all(s.first, told)
		x := r.take()
		told = r.c.who.norm(slices.Concat(told, x.l))
		if x.n == 0 {
			return
		}
		r.all(s.second, told)
	}
}

// outside: what is to be seen from outside.
func (r *specRun) outside(s specStep, way []api.Policy) {
	e := api.Event{What: s.behind[0]}
	switch ops[s.op] {
	case "Get":
		in := r.c.ins[s.behind[0]]
		r.flow(in, way)
		r.flow(r.c.vars[s.behind[1]], r.c.labels[in], way)
		n, ok := r.w.input(s.behind[0])
		r.unless(ok, api.Input)
		r.vars[s.behind[1]] = n
		e.Kind, e.N = 1, n
	case "Put":
		x := r.take()
		r.flow(r.c.outs[s.behind[0]], x.l, way)
		e.Kind, e.N = 2, x.n
	case "Free":
		x := r.take()
		l := r.c.labels[s.behind[1]]
		may := slices.Clone(l)
		for k := range r.c.who.n {
			if s.behind[2]&(1<<k) != 0 {
				may = append(may, api.Policy{Owner: k})
			}
		}
		r.unless(r.c.who.flows(x.l, may), api.Stopped)
		r.flow(r.c.vars[s.behind[0]], l, way)
		r.vars[s.behind[0]] = x.n
		e.Kind, e.N = 3, x.n
	}
	r.unless(r.w.see(e), api.Cut)
}

func calculated(op string, a, b int) int {
	yes := false
	switch op {
	case "Add":
		return a + b
	case "Sub":
		return a - b
	case "Mul":
		return a * b
	case "Div":
		return a / b
	case "Less":
		yes = a < b
	case "Same":
		yes = a == b
	}
	if yes {
		return 1
	}
	return 0
}
