package secrets_test

import "secrets/api"

// spec says P3 and P4 over again, word for word and without bits, so that it can't share a slip with the program.
type spec struct {
	n    int
	acts [6][6]bool // acts[a][b]: a acts for b
}

func specOf(n int, over [][2]int) spec {
	s := spec{n: n}
	if n < 0 {
		s.n = 0
	}
	if n > 6 {
		s.n = 6
	}
	for k := 0; k < s.n; k++ {
		s.acts[k][k] = true
	}
	for _, p := range over {
		if s.is(p[0]) && s.is(p[1]) {
			s.acts[p[0]][p[1]] = true
		}
	}
	for s.grow() {
	}
	return s
}

// grow adds one pair that is missing, if one is.
func (s *spec) grow() bool {
	for a := range 6 {
		for b := range 6 {
			for c := range 6 {
				if s.acts[a][b] && s.acts[b][c] && !s.acts[a][c] {
					s.acts[a][c] = true
					return true
				}
			}
		}
	}
	return false
}

func (s spec) is(k int) bool { return k >= 0 && k < s.n }

func (s spec) over(a, b int) bool { return s.is(a) && s.is(b) && s.acts[a][b] }

func (s spec) lets(p api.Policy, who int) bool {
	if s.over(who, p.Owner) {
		return true
	}
	for k := 0; k < s.n; k++ {
		if p.Readers&(1<<k) != 0 && s.over(who, k) {
			return true
		}
	}
	return false
}

// under: is who a reader of l under the actor?
func (s spec) under(l []api.Policy, actor, who int) bool {
	for _, p := range l {
		if s.over(p.Owner, actor) && !s.lets(p, who) {
			return false
		}
	}
	return true
}

func (s spec) flows(a, b []api.Policy) bool {
	for k := 0; k < s.n; k++ {
		for who := 0; who < s.n; who++ {
			if s.under(b, k, who) && !s.under(a, k, who) {
				return false
			}
		}
	}
	return true
}

func (s spec) reads(who int, l []api.Policy) bool {
	for k := 0; k < s.n; k++ {
		if !s.under(l, k, who) {
			return false
		}
	}
	return s.is(who)
}

func (s spec) norm(l []api.Policy) []api.Policy {
	var out []api.Policy
	for k := 0; k < s.n; k++ {
		p := api.Policy{Owner: k}
		same, first := true, true
		for j := 0; j < k; j++ {
			first = first && !(s.over(j, k) && s.over(k, j))
		}
		for who := 0; who < s.n; who++ {
			if s.under(l, k, who) {
				p.Readers += 1 << who
			}
			same = same && s.under(l, k, who) == s.underAbove(l, k, who)
		}
		if first && !same {
			out = append(out, p)
		}
	}
	return out
}

// underAbove: is who a reader under all actors that act for k, and for which k does not act?
func (s spec) underAbove(l []api.Policy, k, who int) bool {
	for j := 0; j < s.n; j++ {
		if s.over(j, k) && !s.over(k, j) && !s.under(l, j, who) {
			return false
		}
	}
	return true
}

// dice: numbers that look thrown, and are the same in each run.
type dice uint64

func (d *dice) below(n int) int {
	*d = *d*6364136223846793005 + 1442695040888963407
	return int(uint64(*d) >> 33 % uint64(n))
}

// pairs: up to most, of numbers from -1 to 7.
func (d *dice) pairs(most int) [][2]int {
	var l [][2]int
	for range d.below(most + 1) {
		l = append(l, [2]int{d.below(9) - 1, d.below(9) - 1})
	}
	return l
}

// label: up to four policies, mostly of actors, some readers with bits of nobody.
func (d *dice) label() []api.Policy {
	var l []api.Policy
	for range d.below(5) {
		p := api.Policy{Owner: d.below(8) - 1, Readers: d.below(64)}
		switch d.below(12) {
		case 0:
			p.Readers |= -1 << 6
		case 1:
			p.Readers |= 1 << 62
		case 2:
			p.Owner += 1 << 40
		}
		l = append(l, p)
	}
	return l
}
