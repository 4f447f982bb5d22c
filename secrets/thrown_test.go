package secrets_test

import (
	"fmt"
	"slices"
	"testing"

	"secrets/api"
)

// maker writes a thrown program, and keeps beside it what P7 to P9 must find in it, without reading the text again.
type maker struct {
	d      *dice
	text   string
	last   string // the last word
	roles  map[string]string
	count  map[string]int
	places int
	fault  *api.Fault // the first of P7
	n      int        // actors
	over   [][2]int
	labels map[string][][]api.Policy // of inputs, outputs and variables, by number
	open   []bool                    // variables without a label
	flat   []flat
	around []int // variables in the tests around
}

// flat is a statement without its blocks: all variables of its expression, and of the tests around it.
type flat struct {
	kind       string
	at, number int // number: of its variable or output
	from       int // a get's input
	vars, told []int
	label      []api.Policy
	by         []int
}

// word writes a word, and tells where it begins.
func (m *maker) word(w string) int {
	if m.last != "" && (joins(m.last, w) || m.d.below(5) == 0) {
		m.text += []string{" ", "\n"}[m.d.below(2)]
	}
	at := len(m.text)
	m.text += w
	m.last = w
	return at
}

func (m *maker) words(list ...string) {
	for _, w := range list {
		m.word(w)
	}
}

func (m *maker) broken(e api.Errno, at int) {
	if m.fault == nil {
		m.fault = &api.Fault{E: e, At: at}
	}
}

// use writes a name of the role, now and then another one; its number.
func (m *maker) use(role string) int {
	k := 0
	if m.count[role] > 0 {
		k = m.d.below(m.count[role])
	}
	name := fmt.Sprintf("%s%d", role, k)
	if other := []string{"a", "s", "o", "v", "zz"}[m.d.below(5)]; other != role && m.d.below(300) == 0 {
		name = fmt.Sprintf("%s%d", other, m.d.below(3))
	}
	at := m.word(name)
	if m.roles[name] != role {
		m.broken(api.ErrUse, at)
	}
	return k
}

// declare writes a new name of the role, now and then an old one.
func (m *maker) declare(role string, most int) {
	name := fmt.Sprintf("%s%d", role, m.count[role])
	if old := []string{"a", "s", "o", "v"}[m.d.below(4)] + "0"; m.roles[old] != "" && m.d.below(50) == 0 {
		name = old
	}
	at := m.word(name)
	if m.roles[name] != "" {
		m.broken(api.ErrTwice, at)
	} else if m.count[role] == most {
		m.broken(api.ErrFull, at)
	}
	m.roles[name] = role
	m.count[role]++
}

func (m *maker) label() []api.Policy {
	var l []api.Policy
	m.word("{")
	for k := range m.d.below(3) {
		if m.count["a"] == 0 {
			break
		}
		if k > 0 {
			m.word(";")
		}
		p := api.Policy{Owner: m.use("a")}
		m.word(":")
		for range m.d.below(4) {
			p.Readers |= 1 << m.use("a")
		}
		l = append(l, p)
		if m.d.below(4) == 0 {
			m.words(";", "}")
			return l
		}
	}
	m.word("}")
	return l
}

func (m *maker) actors() {
	for range m.d.below(6) {
		m.word("actor")
		m.declare("a", 6)
		m.word(";")
	}
}

func (m *maker) overs() {
	for range m.d.below(3) {
		if m.count["a"] > 0 {
			m.word("over")
			m.over = append(m.over, [2]int{m.use("a"), m.use("a")})
			m.word(";")
		}
	}
}

func (m *maker) channels(word, role string, most int) {
	for range m.d.below(4) + m.d.below(20)/19 {
		m.word(word)
		m.declare(role, most)
		m.labels[role] = append(m.labels[role], m.label())
		m.word(";")
	}
}

func (m *maker) variables() {
	for range 1 + m.d.below(5) + m.d.below(20)/19*5 {
		m.word("var")
		m.declare("v", 8)
		open := m.d.below(3) > 0
		m.open = append(m.open, open)
		var l []api.Policy
		if !open {
			l = m.label()
		}
		m.labels["v"] = append(m.labels["v"], l)
		m.word(";")
	}
}

// expr writes one; the variables in it.
func (m *maker) expr(deep int) []int {
	switch m.d.below(6 + deep) {
	case 0, 1:
		m.word([]string{"0", "1", "007", "999999999", fmt.Sprint(m.d.below(1000))}[m.d.below(5)])
		return nil
	case 2, 3, 4:
		vars := m.side(deep)
		m.word([]string{"+", "-", "*", "/", "<", "=="}[m.d.below(6)])
		return append(vars, m.side(deep)...)
	}
	return m.side(deep)
}

// side writes an atom; the variables in it.
func (m *maker) side(deep int) []int {
	switch m.d.below(4) {
	case 0:
		if deep < 6 {
			m.word("(")
			vars := m.expr(deep + 1)
			m.word(")")
			return vars
		}
	case 1:
		m.word("7")
		return nil
	}
	return []int{m.use("v")}
}

func (m *maker) block(deep int) {
	m.word("{")
	for range m.d.below(5) {
		m.statement(deep)
	}
	m.word("}")
}

// test writes the test of an if or a while, and tells those within of it.
func (m *maker) test(word string, deep int) {
	m.word(word)
	m.around = append(m.around, m.expr(0)...)
	m.block(deep + 1)
}

func (m *maker) statement(deep int) {
	kinds := []string{"assign", "assign", "get", "put", "free", "if", "while"}
	if deep == 6 {
		kinds = kinds[:5]
	}
	f := flat{kind: kinds[m.d.below(len(kinds))], at: len(m.text), told: slices.Clone(m.around)}
	if f.kind == "get" && m.count["s"] == 0 || f.kind == "put" && m.count["o"] == 0 {
		f.kind = "assign"
	}
	// A blank ahead of the statement is written here, so that its beginning is known.
	m.text += " "
	m.last = ""
	f.at++
	if m.places == 40 {
		m.broken(api.ErrFull, f.at)
	}
	m.places++
	outside := len(m.around)
	switch f.kind {
	case "if":
		m.test("if", deep)
		if m.d.below(2) == 0 {
			m.word("else")
			m.block(deep + 1)
		}
	case "while":
		m.test("while", deep)
	default:
		m.simple(&f)
		m.word(";")
		m.flat = append(m.flat, f)
	}
	m.around = m.around[:outside]
}

func (m *maker) simple(f *flat) {
	switch f.kind {
	case "assign":
		f.number = m.use("v")
		m.word("=")
		f.vars = m.expr(0)
	case "get":
		m.word("get")
		f.from, f.number = m.use("s"), m.use("v")
	case "put":
		m.word("put")
		f.number = m.use("o")
		f.vars = m.expr(0)
	case "free":
		m.word("free")
		f.number = m.use("v")
		m.word("=")
		f.vars = m.expr(0)
		f.label = m.label()
		for k := range m.d.below(4) {
			if m.count["a"] == 0 {
				break
			}
			if k == 0 {
				m.word("by")
			}
			f.by = append(f.by, m.use("a"))
		}
	}
}

func (d *dice) program() *maker {
	m := &maker{d: d, roles: map[string]string{}, count: map[string]int{}, labels: map[string][][]api.Policy{}}
	m.actors()
	m.overs()
	m.channels("in", "s", 3)
	if d.below(4) == 0 {
		m.actors()
	}
	m.variables()
	m.channels("out", "o", 3)
	m.overs()
	m.word("do")
	m.block(1)
	return m
}

// joined is the policies of all these variables.
func (m *maker) joined(vars []int) []api.Policy {
	var l []api.Policy
	for _, v := range vars {
		l = append(l, m.labels["v"][v]...)
	}
	return l
}

// into is what flows into the variable of a statement.
func (m *maker) into(f flat) []api.Policy {
	l := m.joined(f.told)
	switch f.kind {
	case "assign":
		return append(l, m.joined(f.vars)...)
	case "get":
		return append(l, m.labels["s"][f.from]...)
	}
	return append(l, f.label...)
}

// workOut raises labels that are left out till all flows into them that must.
func (m *maker) workOut(s spec) {
	for again := true; again; {
		again = false
		for _, f := range m.flat {
			if f.kind == "put" || !m.open[f.number] {
				continue
			}
			if l := m.into(f); !s.flows(l, m.labels["v"][f.number]) {
				m.labels["v"][f.number] = s.norm(append(l, m.labels["v"][f.number]...))
				again = true
			}
		}
	}
}

// errnoOf is what P9 finds in a statement.
func (m *maker) errnoOf(s spec, f flat) api.Errno {
	flow := false
	switch f.kind {
	case "put":
		flow = s.flows(append(m.joined(f.told), m.joined(f.vars)...), m.labels["o"][f.number])
	case "get":
		flow = s.flows(m.into(f), m.labels["v"][f.number]) && s.flows(m.joined(f.told), m.labels["s"][f.from])
	case "assign":
		flow = s.flows(m.into(f), m.labels["v"][f.number])
	case "free":
		may := slices.Clone(f.label)
		for _, k := range f.by {
			may = append(may, api.Policy{Owner: k})
		}
		if !s.flows(m.joined(f.vars), may) {
			return api.ErrBy
		}
		flow = s.flows(m.into(f), m.labels["v"][f.number])
	}
	if !flow {
		return api.ErrFlow
	}
	return api.OK
}

// want is the fault that the program must have; OK and 0, if none.
func (m *maker) want(s spec) (api.Errno, int) {
	if m.fault != nil {
		return m.fault.E, m.fault.At
	}
	m.workOut(s)
	for _, f := range m.flat {
		if e := m.errnoOf(s, f); e != api.OK {
			return e, f.at
		}
	}
	return api.OK, 0
}

// P7 to P9, of thrown programs, as the words say it.
func TestProgramsAsSaid(t *testing.T) {
	d := dice(91)
	found := map[api.Errno]int{}
	for range 12000 {
		m := d.program()
		if len(m.text) > api.MaxText {
			continue
		}
		s := specOf(m.count["a"], m.over)
		e, at := m.want(s)
		found[e]++
		isFault(t, m.text, e, at)
		if t.Failed() {
			return
		}
		if e != api.OK {
			continue
		}
		p := compiled(t, m.text)
		want := ""
		for k, l := range m.labels["v"] {
			want += fmt.Sprintf("v%d=%s ", k, policiesText(s.norm(l)))
		}
		if got := labelsOf(p); got != want {
			t.Fatalf("%s: %s, want %s", m.text, got, want)
		}
		if text := p.Print(); len(text) <= api.MaxText {
			printed := compiled(t, text)
			if printed.Print() != text || labelsOf(printed) != want {
				t.Fatalf("%s: printed as %s, and that as %s", m.text, text, printed.Print())
			}
		}
	}
	for _, e := range []api.Errno{api.OK, api.ErrTwice, api.ErrFull, api.ErrUse, api.ErrFlow, api.ErrBy} {
		if found[e] < 100 {
			t.Errorf("only %d texts with %v", found[e], e)
		}
	}
	t.Log(found)
}
