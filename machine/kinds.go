package machine

import "secrets/api"

// Op is the number of an instruction (P10).
type Op byte

// The instructions.
const (
	Step Op = iota
	Push
	Load
	Store
	Add
	Sub
	Mul
	Div
	Less
	Same
	Get
	Put
	If
	Else
	End
	Loop
	Test
	Free
	ops = iota // how many there are
)

// operand is a thing that stands behind an instruction.
type operand int

const (
	aNumber operand = iota
	anInput
	anOutput
	aVariable
	aLabel
	someActors
)

// kind is all that there is to know of an instruction: what stands behind it, how many numbers it takes from the stack and gives back, and what it does.
type kind struct {
	behind       []operand
	takes, gives int
	does         action
}

// kinds is the table of the instructions: reading, writing, checking and running all go by it.
func kinds() [ops]kind {
	return [ops]kind{
		Step:  {does: step},
		Push:  {behind: []operand{aNumber}, gives: 1, does: push},
		Load:  {behind: []operand{aVariable}, gives: 1, does: load},
		Store: {behind: []operand{aVariable}, takes: 1, does: store},
		Add:   {takes: 2, gives: 1, does: both(func(a, b int) int { return a + b })},
		Sub:   {takes: 2, gives: 1, does: both(func(a, b int) int { return a - b })},
		Mul:   {takes: 2, gives: 1, does: both(func(a, b int) int { return a * b })},
		Div:   {takes: 2, gives: 1, does: unlessByZero(both(func(a, b int) int { return a / b }))},
		Less:  {takes: 2, gives: 1, does: both(func(a, b int) int { return oneIf(a < b) })},
		Same:  {takes: 2, gives: 1, does: both(func(a, b int) int { return oneIf(a == b) })},
		Get:   {behind: []operand{anInput, aVariable}, does: get},
		Put:   {behind: []operand{anOutput}, takes: 1, does: put},
		If:    {takes: 1, does: choose},
		Else:  {does: leap},
		End:   {does: leap},
		Loop:  {does: enter},
		Test:  {takes: 1, does: test},
		Free:  {behind: []operand{aVariable, aLabel, someActors}, takes: 1, does: free},
	}
}

// action is what an instruction does in a run. Done says that the run goes on: only behind the last instruction is it an end.
type action func(m *machine, i Instruction) api.Outcome
