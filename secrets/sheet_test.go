package secrets_test

import (
	"fmt"
	"slices"
	"strconv"
	"strings"
	"testing"

	"secrets/api"
	"secrets/secrets"
)

// sheet is a code as a test writes it down, part by part. Its bytes need not be those of a code.
type sheet struct {
	above           []int          // for each actor who acts for it, as bits
	labels          [][]api.Policy // as they stand
	ins, outs, vars []int          // places among the labels
	does            string         // words: "Get s h Load 1 Put 0"; see words
}

// ops: the document's instructions, by their numbers.
var ops = strings.Fields("Step Push Load Store Add Sub Mul Div Less Same Get Put If Else End Loop Test Free")

// names stand for numbers in the words of a code, as abc has them: inputs, outputs and variables of nobody's, a's, b's and both's; their labels; actors as bits.
var names = map[string]int{
	"p": 0, "s": 1, "t": 2,
	"o": 0, "u": 1, "w": 2,
	"l": 0, "h": 1, "k": 2, "x": 3,
	"{}": 0, "{a}": 1, "{b}": 2, "{ab}": 3,
	"-": 0, "a": 1, "b": 2, "ab": 3, "c": 4, "ac": 5, "bc": 6, "abc": 7,
}

// abc: three actors, and of each thing one of nobody's, one of a's, and so on.
func abc(does string) sheet {
	return sheet{
		above:  []int{1, 2, 4},
		labels: [][]api.Policy{nil, label(0, 1), label(1, 2), label(0, 1, 1, 2)},
		ins:    []int{0, 1, 2},
		outs:   []int{0, 1, 3},
		vars:   []int{0, 1, 2, 3},
		does:   does,
	}
}

// bytes lays a sheet out as P11 says.
func (s sheet) bytes() string {
	out := append([]byte("SCR1"), byte(len(s.above)))
	for _, bits := range s.above {
		out = append(out, byte(bits))
	}
	out = append(out, byte(len(s.labels)))
	for _, l := range s.labels {
		out = append(out, byte(len(l)))
		for _, p := range l {
			out = append(out, byte(p.Owner), byte(p.Readers))
		}
	}
	for _, list := range [][]int{s.ins, s.outs, s.vars} {
		out = append(out, byte(len(list)))
		for _, k := range list {
			out = append(out, byte(k))
		}
	}
	return string(out) + wordBytes(s.does)
}

// place is where the label stands; behind all others, if it did not stand there so far.
func (s *sheet) place(l []api.Policy) int {
	for k, other := range s.labels {
		if slices.Equal(l, other) {
			return k
		}
	}
	s.labels = append(s.labels, l)
	return len(s.labels) - 1
}

// above: for each actor who acts for it, as bits.
func (s spec) above() []int {
	var l []int
	for k := range s.n {
		bits := 0
		for j := range s.n {
			if s.over(j, k) {
				bits |= 1 << j
			}
		}
		l = append(l, bits)
	}
	return l
}

// wordBytes: an instruction's name is its number; behind Push a number has four bytes, elsewhere one; a number that begins with # has one even there.
func wordBytes(text string) string {
	var out []byte
	wide := false
	for _, word := range strings.Fields(text) {
		if op := slices.Index(ops, word); op >= 0 {
			out = append(out, byte(op))
			wide = word == "Push"
			continue
		}
		n, named := names[word]
		if !named {
			n = numberOf(strings.TrimPrefix(word, "#"))
		}
		if wide && word[0] != '#' {
			out = append(out, byte(n>>24), byte(n>>16), byte(n>>8))
		}
		out = append(out, byte(n))
	}
	return string(out)
}

func numberOf(word string) int {
	n, err := strconv.Atoi(word)
	if err != nil {
		panic(err)
	}
	return n
}

// loadFault is the Errno of bytes that are no code; OK, if they are one. That a code's bytes are those that were loaded, and that a fault is at 0, is held against it here.
func loadFault(t *testing.T, s string) api.Errno {
	t.Helper()
	c, err := secrets.Load(s)
	if err == nil {
		if c == nil {
			t.Fatalf("%x: no code and no error", s)
		}
		if got := c.Bytes(); got != s {
			t.Fatalf("%x: Bytes are %x", s, got)
		}
		return api.OK
	}
	if c != nil {
		t.Fatalf("%x: a code beside the error %v", s, err)
	}
	e, at := partsOf(t, fmt.Sprintf("%x", s), err, api.ErrLong, api.ErrCode)
	if at != 0 {
		t.Fatalf("%x: %v at %d", s, e, at)
	}
	return e
}

// loaded is the code of a sheet that must be one.
func loaded(t *testing.T, s sheet) *secrets.Code {
	t.Helper()
	c, err := secrets.Load(s.bytes())
	if err != nil || c == nil {
		t.Fatalf("%v: %v", s, err)
	}
	return c
}

// outcomes: by their numbers.
var outcomes = strings.Fields("Done Fuel Divide Input Stopped Cut")

// kindsOfEvents: by their numbers.
var kindsOfEvents = strings.Fields("None Got Put Freed")

// world is what a run is handed, and keeps what the run did with it.
type world struct {
	inputs [][]int // of each channel the numbers that come
	most   int     // no is said to the event with this number, from 1 on; 0: never
	said   []string
	seen   int
}

func (w *world) input(channel int) (int, bool) {
	if channel < 0 || channel >= len(w.inputs) || len(w.inputs[channel]) == 0 {
		w.said = append(w.said, fmt.Sprintf("ask %d", channel))
		return 12345, false // a number beside a no counts for nothing
	}
	n := w.inputs[channel][0]
	w.inputs[channel] = w.inputs[channel][1:]
	w.said = append(w.said, fmt.Sprintf("ask %d", channel))
	return n, true
}

func (w *world) see(e api.Event) bool {
	kind := fmt.Sprint(e.Kind)
	if e.Kind > 0 && e.Kind < len(kindsOfEvents) {
		kind = kindsOfEvents[e.Kind]
	}
	w.said = append(w.said, fmt.Sprintf("%s %d %d", kind, e.What, e.N))
	w.seen++
	return w.seen != w.most
}

// ends is all that was said, and how it ended.
func (w *world) ends(o api.Outcome) string {
	end := fmt.Sprint(int(o))
	if o >= 0 && int(o) < len(outcomes) {
		end = outcomes[o]
	}
	return strings.Join(append(w.said, end), "; ")
}

// ran is what a run does: "ask 1; Got 1 7; Put 0 3; Done".
func ran(c *secrets.Code, inputs [][]int, fuel, most int) string {
	w := &world{inputs: slices.Clone(inputs), most: most}
	return w.ends(c.Run(w.input, fuel, w.see))
}
