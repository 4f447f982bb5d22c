package secrets_test

import (
	"strings"
	"testing"

	"secrets/api"
)

// goodProgram throws programs till one has no fault.
func (d *dice) goodProgram() *maker {
	for {
		m := d.program()
		if len(m.text) > api.MaxText {
			continue
		}
		if e, _ := m.want(specOf(m.count["a"], m.over)); e == api.OK {
			return m
		}
	}
}

// P12, of thrown programs: each code is to the byte what the words say, and its runs do what the statements say, whatever comes: what they say is never Stopped.
func TestCodesOfProgramsAsSaid(t *testing.T) {
	d := dice(29)
	counts := map[string]int{}
	for range 5000 {
		m := d.goodProgram()
		c, r := codeOf(t, m.text), readingOf(m.text)
		want := r.sheet(m.labels["v"])
		if c.Bytes() != want.bytes() {
			t.Fatalf("%s: %x, want %x", m.text, c.Bytes(), want.bytes())
		}
		for range 8 {
			d.runsAsSaid(t, m.text, c, r.run, counts)
		}
		for _, word := range strings.Fields(want.does) {
			counts["code "+word]++
		}
	}
	for _, word := range []string{"Done", "Fuel", "Divide", "Input", "Cut", "Got", "Put", "Freed"} {
		if counts[word] < 300 {
			t.Errorf("the programs are not such as to show much of %s: %v", word, counts)
		}
	}
	for _, op := range ops {
		if counts["code "+op] < 300 {
			t.Errorf("the programs are not such as to show much of %s: %v", op, counts)
		}
	}
}
