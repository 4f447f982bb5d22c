package secrets_test

import (
	"fmt"
	"slices"
	"strings"
	"testing"

	"secrets/api"
	"secrets/secrets"
)

// codeMaker throws a sheet that is a code.
type codeMaker struct {
	d     *dice
	s     sheet
	who   spec
	pool  [][]api.Policy // labels to choose from
	words []string
	left  int // how many statements may still come
}

// code throws a code. Labels are few, so that about as many runs go on as are stopped.
func (d *dice) code() sheet {
	n := d.below(5)
	if d.below(6) == 0 {
		n = 6
	}
	pairs := d.pairs(3)
	m := &codeMaker{d: d, who: specOf(n, pairs), left: 2 + d.below(12)}
	m.s.above = m.who.above()
	m.pool = [][]api.Policy{nil}
	for range d.below(4) {
		m.pool = append(m.pool, m.who.norm(d.label()))
	}
	m.s.ins = m.places(d.below(4))
	m.s.outs = m.places(d.below(4))
	m.s.vars = m.places(1 + d.below(8))
	m.block(0)
	m.s.does = strings.Join(m.words, " ")
	return m.s
}

// place is a thrown label's place.
func (m *codeMaker) place() int { return m.s.place(m.pool[m.d.below(len(m.pool))]) }

func (m *codeMaker) places(n int) []int {
	var l []int
	for range n {
		l = append(l, m.place())
	}
	return l
}

func (m *codeMaker) say(words ...any) {
	for _, w := range words {
		m.words = append(m.words, fmt.Sprint(w))
	}
}

func (m *codeMaker) block(depth int) {
	for range m.d.below(5) {
		if m.left > 0 {
			m.left--
			m.statement(depth)
		}
	}
}

func (m *codeMaker) statement(depth int) {
	d := m.d
	if d.below(3) > 0 {
		m.say("Step")
	}
	v := d.below(len(m.s.vars))
	switch k := d.below(12); {
	case k < 2 && len(m.s.ins) > 0:
		m.say("Get", d.below(len(m.s.ins)), v)
	case k < 4 && len(m.s.outs) > 0:
		m.expr(3)
		m.say("Put", d.below(len(m.s.outs)))
	case k < 6 && depth < 4:
		m.expr(2)
		m.say("If")
		m.block(depth + 1)
		if d.below(2) == 0 {
			m.say("Else")
			m.block(depth + 1)
		}
		m.say("End")
	case k < 8 && depth < 4:
		m.say("Loop", "Step")
		if d.below(2) == 0 {
			m.block(depth + 1)
		}
		m.expr(1)
		m.say("Test")
		m.block(depth + 1)
		m.say("End")
	case k < 9:
		m.expr(2)
		m.say("Free", v, m.place(), d.below(1<<len(m.s.above)))
	default:
		m.expr(4)
		m.say("Store", v)
	}
}

func (m *codeMaker) expr(depth int) {
	switch k := m.d.below(7); {
	case depth == 0 || k < 2:
		m.say("Load", m.d.below(len(m.s.vars)))
	case k < 4:
		m.say("Push", []int{0, 1, 2, 3, 7, 255, 65536, 1 << 31, 1<<32 - 1}[m.d.below(9)])
	default:
		m.expr(depth - 1)
		m.expr(depth - 1)
		m.say([]string{"Add", "Sub", "Mul", "Div", "Less", "Same"}[m.d.below(6)])
	}
}

// inputs: up to three channels of up to four numbers.
func (d *dice) inputs() [][]int {
	var l [][]int
	for range d.below(4) {
		var in []int
		for range d.below(5) {
			in = append(in, []int{-1, 0, 1, 2, 3, -1 << 63, 1<<63 - 1, 1 << 62}[d.below(8)])
		}
		l = append(l, in)
	}
	return l
}

// runsAsSaid throws what comes, runs the code with it, and holds that against what is said; it counts what there was to be seen.
func (d *dice) runsAsSaid(t *testing.T, of string, c *secrets.Code, said func(w *world, fuel int) api.Outcome, counts map[string]int) {
	t.Helper()
	in, fuel, most := d.inputs(), d.below(30)-1, d.below(9)
	w := &world{inputs: slices.Clone(in), most: most}
	want := w.ends(said(w, fuel))
	if got := ran(c, in, fuel, most); got != want {
		t.Fatalf("%s with %v, fuel %d, no at %d: %s, want %s", of, in, fuel, most, got, want)
	}
	counts[want[strings.LastIndex(want, " ")+1:]]++
	for _, kind := range kindsOfEvents {
		counts[kind] += strings.Count(want, kind)
	}
}

// P10, of thrown codes, as the words say it.
func TestRunsAsSaid(t *testing.T) {
	d := dice(17)
	counts := map[string]int{}
	for range 6000 {
		s := d.code()
		c, said := loaded(t, s), mustSpec(t, s.bytes())
		if !tells(c, said) {
			t.Fatalf("%+v: tells %v %v %d", s, c.Ins(), c.Outs(), c.Frees())
		}
		for range 5 {
			d.runsAsSaid(t, fmt.Sprintf("%+v", s), c, said.run, counts)
		}
	}
	for _, word := range slices.Concat(outcomes, kindsOfEvents[1:]) {
		if counts[word] < 300 {
			t.Errorf("the codes are not such as to show much: %v", counts)
		}
	}
}

func mustSpec(t *testing.T, s string) codeSpec {
	t.Helper()
	c, ok := codeSpecOf(s)
	if !ok {
		t.Fatalf("%x: no code, as the words say it", s)
	}
	return c
}

// tells: does the code tell of itself what is said?
func tells(c *secrets.Code, said codeSpec) bool {
	o := c.Order()
	yes := o.Actors() == said.who.n && c.Frees() == freesOf(said.does)
	for a := range 7 {
		for b := range 7 {
			yes = yes && o.Over(a, b) == said.who.over(a, b)
		}
	}
	at := func(places []int) [][]api.Policy {
		var l [][]api.Policy
		for _, k := range places {
			l = append(l, said.labels[k])
		}
		return l
	}
	return yes && slices.EqualFunc(c.Ins(), at(said.ins), slices.Equal) && slices.EqualFunc(c.Outs(), at(said.outs), slices.Equal)
}

func freesOf(list []specStep) int {
	n := 0
	for _, s := range list {
		if ops[s.op] == "Free" {
			n++
		}
		n += freesOf(s.first) + freesOf(s.second)
	}
	return n
}

// agreesOn: Load takes the bytes just if they are a code as the words say it.
func agreesOn(t *testing.T, s string) bool {
	t.Helper()
	_, ok := codeSpecOf(s)
	if e := loadFault(t, s); (e == api.OK) != ok {
		t.Fatalf("%x: %v, and as the words say it a code: %v", s, e, ok)
	}
	return ok
}

// P11, of thrown codes of which one byte is another, is missing or is there twice, or two stand the other way round.
func TestLoadsAsSaid(t *testing.T) {
	d := dice(23)
	taken, refused := 0, 0
	count := func(ok bool) {
		if ok {
			taken++
		} else {
			refused++
		}
	}
	for range 400 {
		s := d.code().bytes()
		for at := 4; at < len(s); at++ {
			for _, b := range []byte{s[at] + 1, s[at] - 1, byte(d.below(18)), byte(d.below(256))} {
				count(agreesOn(t, s[:at]+string([]byte{b})+s[at+1:]))
			}
			count(agreesOn(t, s[:at]))
			count(agreesOn(t, s[:at]+s[at+1:]))
			count(agreesOn(t, s[:at]+s[at:at+1]+s[at:]))
			count(agreesOn(t, s[:at]+string([]byte{byte(d.below(18))})+s[at:]))
			if at+1 < len(s) {
				count(agreesOn(t, s[:at]+s[at+1:at+2]+s[at:at+1]+s[at+2:]))
			}
		}
	}
	if taken < 5000 || refused < 50000 {
		t.Errorf("the bytes are not such as to show much: %d taken, %d refused", taken, refused)
	}
}

// P11, of all bits of who acts for whom among few, with each label of one policy, and of two where these are all there.
func TestLoadsOfSmallOrders(t *testing.T) {
	taken := 0
	take := func(s sheet) bool {
		ok := agreesOn(t, s.bytes())
		if ok {
			taken++
		}
		return ok
	}
	for bits := range 1 << 9 {
		s := sheet{above: []int{bits & 7, bits >> 3 & 7, bits >> 6}}
		whole := take(s)
		s.vars = []int{0}
		for one := range 4 * 16 {
			s.labels = [][]api.Policy{label(one>>4, one&15)}
			take(s)
			for other := range 3 * 8 {
				if whole {
					s.labels = [][]api.Policy{label(one>>4, one&15, other>>3, other&7)}
					take(s)
				}
			}
		}
	}
	for bits := range 1 << 6 {
		take(sheet{above: []int{bits & 7, bits >> 3}})
		take(sheet{above: []int{bits}})
	}
	if taken < 100 {
		t.Errorf("only %d of the bytes are codes", taken)
	}
}
