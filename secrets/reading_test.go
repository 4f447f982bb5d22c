package secrets_test

import (
	"fmt"
	"slices"
	"strings"

	"secrets/api"
)

// reading is a text that is known to be a program, read by the rule of thumb: what P12 makes of it, and what its statements say, both without asking the program.
type reading struct {
	words   []string // that are still to come
	count   map[string]int
	numbers map[string]int // of names
	over    [][2]int
	labels  map[string][][]api.Policy // of what "in" and "out" declare
	body    []said
}

// said is a statement.
type said struct {
	kind        string // "=", "get", "put", "free", "if" or "while"
	to, from    int
	value       *branch
	label       []api.Policy
	by          int
	body, other []said
	hasElse     bool
}

func readingOf(text string) *reading {
	r := &reading{count: map[string]int{}, numbers: map[string]int{}, labels: map[string][][]api.Policy{}}
	r.words = strings.Fields(strings.NewReplacer("==", " == ", "=", " = ", ";", " ; ", ":", " : ", "{", " { ", "}", " } ", "(", " ( ", ")", " ) ", "+", " + ", "-", " - ", "*", " * ", "/", " / ", "<", " < ").Replace(text))
	for r.words[0] != "do" {
		r.declaration()
	}
	r.next()
	r.body = r.block()
	return r
}

func (r *reading) next() string {
	w := r.words[0]
	r.words = r.words[1:]
	return w
}

func (r *reading) number() int { return r.numbers[r.next()] }

// expr is what stands up to that sign.
func (r *reading) expr(sign string) *branch {
	end := slices.Index(r.words, sign)
	b := parsed(r.words[:end])
	r.words = r.words[end:]
	return b
}

func (r *reading) declaration() {
	word := r.next()
	if word == "over" {
		r.over = append(r.over, [2]int{r.number(), r.number()})
		r.next()
		return
	}
	r.numbers[r.next()] = r.count[word]
	r.count[word]++
	if r.words[0] == "{" {
		r.labels[word] = append(r.labels[word], r.label())
	}
	r.next()
}

func (r *reading) label() []api.Policy {
	var l []api.Policy
	for r.next(); r.words[0] != "}"; {
		p := api.Policy{Owner: r.number()}
		for r.next(); r.words[0] != ";" && r.words[0] != "}"; {
			p.Readers |= 1 << r.number()
		}
		l = append(l, p)
		if r.words[0] == ";" {
			r.next()
		}
	}
	r.next()
	return l
}

func (r *reading) block() []said {
	var list []said
	for r.next(); r.words[0] != "}"; {
		list = append(list, r.statement())
	}
	r.next()
	return list
}

func (r *reading) statement() said {
	s := said{kind: r.next()}
	switch s.kind {
	case "if", "while":
		s.value = r.expr("{")
		s.body = r.block()
		if s.kind == "if" && r.words[0] == "else" {
			r.next()
			s.hasElse, s.other = true, r.block()
		}
		return s
	case "get":
		s.from, s.to = r.number(), r.number()
	case "put":
		s.to, s.value = r.number(), r.expr(";")
	case "free":
		s.to = r.number()
		r.next()
		s.value, s.label = r.expr("{"), r.label()
		for r.words[0] != ";" {
			if w := r.next(); w != "by" {
				s.by |= 1 << r.numbers[w]
			}
		}
	default:
		s.to = r.numbers[s.kind]
		r.next()
		s.kind, s.value = "=", r.expr(";")
	}
	r.next()
	return s
}

// sheet is what P12 makes of it. Labels of variables are not worked out here.
func (r *reading) sheet(vars [][]api.Policy) sheet {
	who := specOf(r.count["actor"], r.over)
	s := sheet{above: who.above()}
	places := func(labels [][]api.Policy) []int {
		var l []int
		for _, one := range labels {
			l = append(l, s.place(who.norm(one)))
		}
		return l
	}
	s.ins, s.outs, s.vars = places(r.labels["in"]), places(r.labels["out"]), places(vars)
	s.does = r.code(&s, who, r.body)
	return s
}

func (r *reading) code(s *sheet, who spec, list []said) string {
	text := ""
	for _, x := range list {
		switch x.kind {
		case "=":
			text += fmt.Sprintf("Step %sStore %d ", r.pushed(x.value), x.to)
		case "get":
			text += fmt.Sprintf("Step Get %d %d ", x.from, x.to)
		case "put":
			text += fmt.Sprintf("Step %sPut %d ", r.pushed(x.value), x.to)
		case "free":
			text += fmt.Sprintf("Step %sFree %d %d %d ", r.pushed(x.value), x.to, s.place(who.norm(x.label)), x.by)
		case "while":
			text += "Loop Step " + r.pushed(x.value) + "Test " + r.code(s, who, x.body) + "End "
		case "if":
			text += "Step " + r.pushed(x.value) + "If " + r.code(s, who, x.body)
			if x.hasElse {
				text += "Else " + r.code(s, who, x.other)
			}
			text += "End "
		}
	}
	return text
}

var instructionOf = map[string]string{"+": "Add", "-": "Sub", "*": "Mul", "/": "Div", "<": "Less", "==": "Same"}

func (r *reading) pushed(b *branch) string {
	if b.op != "" {
		return r.pushed(b.left) + r.pushed(b.right) + instructionOf[b.op] + " "
	}
	if v, ok := r.numbers[b.text]; ok {
		return fmt.Sprintf("Load %d ", v)
	}
	return fmt.Sprintf("Push %d ", numberOf(b.text))
}

// saidRun does what statements say, without labels.
type saidRun struct {
	r    *reading
	w    *world
	fuel int
	vars [8]int
}

// run is what the program does in that world, with so many steps.
func (r *reading) run(w *world, fuel int) (out api.Outcome) {
	defer func() {
		if thrown := recover(); thrown != nil {
			out = thrown.(api.Outcome)
		}
	}()
	(&saidRun{r: r, w: w, fuel: fuel}).block(r.body)
	return api.Done
}

func (s *saidRun) unless(yes bool, o api.Outcome) {
	if !yes {
		panic(o)
	}
}

func (s *saidRun) step() {
	s.unless(s.fuel > 0, api.Fuel)
	s.fuel--
}

func (s *saidRun) tell(kind, what, n int) {
	s.unless(s.w.see(api.Event{Kind: kind, What: what, N: n}), api.Cut)
}

func (s *saidRun) block(list []said) {
	for _, x := range list {
		s.step()
		s.statement(x)
	}
}

func (s *saidRun) statement(x said) {
	switch x.kind {
	case "=":
		s.vars[x.to] = s.value(x.value)
	case "get":
		n, ok := s.w.input(x.from)
		s.unless(ok, api.Input)
		s.vars[x.to] = n
		s.tell(1, x.from, n)
	case "put":
		s.tell(2, x.to, s.value(x.value))
	case "free":
		s.vars[x.to] = s.value(x.value)
		s.tell(3, x.to, s.vars[x.to])
	case "if":
		if s.value(x.value) != 0 {
			s.block(x.body)
		} else {
			s.block(x.other)
		}
	case "while":
		for s.value(x.value) != 0 {
			s.block(x.body)
			s.step()
		}
	}
}

func (s *saidRun) value(b *branch) int {
	if b.op == "" {
		if v, ok := s.r.numbers[b.text]; ok {
			return s.vars[v]
		}
		return numberOf(b.text)
	}
	left, right := s.value(b.left), s.value(b.right)
	s.unless(b.op != "/" || right != 0, api.Divide)
	return calculated(instructionOf[b.op], left, right)
}
