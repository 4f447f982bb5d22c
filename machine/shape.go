package machine

import "secrets/api"

// part is an If or a Loop whose End has not come yet.
type part struct {
	begins int // the place of If or Loop
	waits  int // the place of the last of If, Else, Loop and Test: for this the End is to come
}

// link finds how deep each instruction stands and where If, Else, Test and End go on; false: one of these stands where it may not, or is missing.
func link(list []Instruction) bool {
	var open []part
	for at := range list {
		list[at].depth = len(open)
		switch list[at].Op {
		case If, Loop:
			open = append(open, part{at, at})
			if list[at].Op == Loop && !stepAt(list, at+1) {
				return false
			}
		case Else, Test, End:
			if len(open) == 0 || !open[len(open)-1].goOn(list, at) {
				return false
			}
			if list[at].Op == End {
				open = open[:len(open)-1]
			}
		}
	}
	return len(open) == 0
}

// stepAt: behind Loop stands Step, so that no loop runs without fuel.
func stepAt(list []Instruction, at int) bool {
	return at < len(list) && list[at].Op == Step
}

// goOn takes Else, Test or End into its part; false: the part waits for something else.
func (p *part) goOn(list []Instruction, at int) bool {
	waits := &list[p.waits]
	switch list[at].Op {
	case Else:
		waits.to = at + 1
		p.waits = at
		return waits.Op == If
	case Test:
		p.waits = at
		return waits.Op == Loop
	}
	waits.to = at + 1
	list[at].to = at + 1
	if waits.Op == Test {
		list[at].to = p.begins + 1
	}
	return waits.Op != Loop
}

// balanced: each instruction finds the numbers that it takes, there are never too many, and none is left where none may be.
func balanced(list []Instruction) bool {
	table := kinds()
	height := 0
	for _, i := range list {
		k := table[i.Op]
		if height < k.takes {
			return false
		}
		height += k.gives - k.takes
		if height > api.MaxHeight || k.gives == 0 && height > 0 {
			return false
		}
	}
	return height == 0
}
